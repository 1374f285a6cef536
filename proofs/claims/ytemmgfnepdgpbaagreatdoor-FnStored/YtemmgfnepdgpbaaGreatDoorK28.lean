/-
  The program's policy by its contracts: keys, moments, what is a right object.
  A block of cells of one's own: what lies in it, and for how long.
  The program's ShowObject, by its contract.
  The specification's ReadObject from its last steps on: what was put together is shown, and held against the text.
-/
import Derived.Test.YtemmgfnepdgpbaaGreatDoorK22
import Derived.Test.YtemmgfnepdgpbaaGreatDoorK15
import Derived.Test.YtemmgfnepdgpbaaGreatDoorK27
import Derived.Test.YtemmgfnepdgpbaaGreatDoorK12
import Derived.Test.YtemmgfnepdgpbaaGreatDoorK16
import Derived.Test.YtemmgfnepdgpbaaGreatDoorK26
import Derived.Deep.RegionWith
namespace Go.Proofs.YtemmgfnepdgpbaaGreatDoor
open Go.RowKit Go.Sort
set_option linter.unusedVariables false

set_option maxHeartbeats 1000000 in
theorem implSol (s : ByteArray) (w : World) (hs : s.size ≤ 1048576) :
    Calls Tryz.prog 58 #[.string s, .int .i64 500] w fun e w' => e = .returned (.bool (keyO s)) ∧ w = w' := by
  have HK : Hid (keyO s = (allB keyN s.data.toList && decide (s.size ≤ 500))) := rfl
  generalize keyO s = K at HK ⊢
  by_cases h5 : (500 : Int) < (s.size : Int)
  · have HF : Hid (false = K) := by show _ = _; rw [HK.out, decide_eq_false (by omega), Bool.and_false]
    go_enter Tryz.func58, Tryz.ntmps58
    go_wp2
    go_ret
    exact ⟨ret_bool HF.out, rfl⟩
  · go_enter Tryz.func58, Tryz.ntmps58
    go_wp2
    go_loop [12] (fun i => ∃ k : Nat, k ≤ s.size ∧ i = .int .i64 k ∧ Hid (allB keyN (s.data.toList.take k) = true)) (fun i => s.size - (intOf i).toNat)
    case atStart => exact ⟨0, Nat.zero_le _, rfl, allB_nil _ _⟩
    case round =>
      obtain ⟨k, hk, rfl, ha⟩ := hrel
      by_cases hlt : k < s.size
      · by_cases hl : (s[k].toNat : Int) < 33
        · have HF : Hid (false = K) := by show _ = _; rw [HK.out, ← allB_not (p := keyN) hlt (keyN_no (by omega))]; rfl
          go_wp2
          go_ret
          exact ⟨ret_bool HF.out, rfl⟩
        · by_cases hg : 126 < (s[k].toNat : Int)
          · have HF : Hid (false = K) := by show _ = _; rw [HK.out, ← allB_not (p := keyN) hlt (keyN_no (by omega))]; rfl
            go_wp2
            go_ret
            exact ⟨ret_bool HF.out, rfl⟩
          · have HV : Hid (allB keyN (s.data.toList.take (k + 1)) = true) := allB_step hlt ha.out (keyN_yes (by omega))
            go_wp2
            go_round
            case rel => exact ⟨k + 1, by omega, by go_num, HV⟩
            case measure => simp [intOf]; omega
      · have HE : Hid (true = K) := by
          show _ = _
          have e : s.data.toList.take k = s.data.toList := List.take_of_length_le (by simp; omega)
          have h2 := ha.out
          rw [e] at h2
          rw [HK.out, h2, Bool.true_and, decide_eq_true (by omega)]
        go_wp2
        go_ret
        exact ⟨ret_bool HE.out, rfl⟩
theorem implMomB (n : Int) (w : World) : Calls Tryz.prog 61 #[.int .i64 n] w fun e w' => e = .returned (.bool (momB n)) ∧ w = w' := by
  have HB : Hid (momB n = (decide (0 ≤ n) && decide (n ≤ 253402300799))) := rfl
  generalize momB n = b at HB ⊢
  by_cases h0 : 0 ≤ n
  · have HR : Hid (decide (n ≤ 253402300799) = b) := by show _ = _; rw [HB.out, decide_eq_true h0, Bool.true_and]
    go_enter Tryz.func61, Tryz.ntmps61
    go_wp2
    go_ret
    exact ⟨ret_bool HR.out, rfl⟩
  · have HR : Hid (false = b) := by show _ = _; rw [HB.out, decide_eq_false h0, Bool.false_and]
    go_enter Tryz.func61, Tryz.ntmps61
    go_wp2
    go_ret
    exact ⟨ret_bool HR.out, rfl⟩
set_option maxHeartbeats 4000000 in
theorem implObOk (o : Ob) (v u : Value) (w : World) (h : ObIn w v u o) :
    Calls Tryz.prog 25 #[obV o v u] w fun e w' => e = .returned (.bool (obB o)) ∧ Below w.heap.size w w' := by
  have HB : Hid (obB o = (keyO o.k && (fldsOk o.l && (rsOk o.r && (momB o.asked && (momB o.got && (decide (o.asked ≤ o.got) && (decide (0 ≤ o.ep) && decide (o.ep ≤ 100000))))))))) := rfl
  have j1 := fun W => implSol o.k W h.2.2
  have j2 := fun W (hW : Fits W v o.l) => implOk v o.l W hW.1 hW.2.1
  have j3 := fun W hW => implRsOk o.r u W hW
  have j4 := fun W => implMomB o.asked W
  have j5 := fun W => implMomB o.got W
  skip
  generalize obB o = R at HB ⊢
  generalize keyO o.k = b1 at HB j1
  generalize fldsOk o.l = b2 at HB j2
  generalize rsOk o.r = b3 at HB j3
  generalize momB o.asked = b4 at HB j4
  generalize momB o.got = b5 at HB j5
  obtain ⟨va, vc, rfl⟩ := h.1.form
  obtain ⟨ua, uc, rfl⟩ := h.2.1.1.form
  have Q0 : Hid (ObB (w.alloc (.cells #[.string o.k, .slice va o.l.length vc, .int .i64 o.r.s, .slice ua o.r.l.length uc, .string o.r.b, .int .i64 o.asked, .int .i64 o.got, .int .i64 o.ep] 28)) w.heap.size o (.slice va o.l.length vc) (.slice ua o.r.l.length uc)) := ObB.new w o _ _ _
  have B0 : Hid (Below w.heap.size w (w.alloc (.cells #[.string o.k, .slice va o.l.length vc, .int .i64 o.r.s, .slice ua o.r.l.length uc, .string o.r.b, .int .i64 o.asked, .int .i64 o.got, .int .i64 o.ep] 28))) := (Below.refl _ w).alloc (Nat.le_refl _) _
  have I0 : Hid (ObIn (w.alloc (.cells #[.string o.k, .slice va o.l.length vc, .int .i64 o.r.s, .slice ua o.r.l.length uc, .string o.r.b, .int .i64 o.asked, .int .i64 o.got, .int .i64 o.ep] 28)) (.slice va o.l.length vc) (.slice ua o.r.l.length uc) o) := h.kept B0.out
  clear h
  unfold obV
  unfold rsV at j3
  go_enter Tryz.func25, Tryz.ntmps25
  go_wp2_with fail
  refine (j1 _).mono ?_
  rintro e w1 ⟨rfl, rfl⟩
  clear j1
  cases b1 with
  | false =>
    have HR : Hid (false = R) := HB.out.symm
    go_wp2
    go_ret
    exact ⟨ret_bool HR.out, B0.out⟩
  | true =>
    go_wp2_with fail
    refine (j2 _ I0.out.1).mono ?_
    rintro e w2 ⟨rfl, hb2⟩
    have Q2 : Hid (ObB w2 w.heap.size o (.slice va o.l.length vc) (.slice ua o.r.l.length uc)) := Q0.out.next hb2
    have B2 : Hid (Below w.heap.size w w2) := past6 B0.out hb2
    have I2 : Hid (ObIn w2 (.slice va o.l.length vc) (.slice ua o.r.l.length uc) o) := I0.out.kept hb2
    clear hb2 Q0 B0 I0 j2
    cases b2 with
    | false =>
      have HR : Hid (false = R) := HB.out.symm
      go_wp2
      go_ret
      exact ⟨ret_bool HR.out, B2.out⟩
    | true =>
      have d2 := Q2.out.c2
      have d3 := Q2.out.c3
      have d4 := Q2.out.c4
      go_wp2_with fail
      refine (j3 _ I2.out.2.1).mono ?_
      rintro e w3 ⟨rfl, hb3⟩
      have Q3 : Hid (ObB w3 w.heap.size o (.slice va o.l.length vc) (.slice ua o.r.l.length uc)) := Q2.out.next hb3
      have B3 : Hid (Below w.heap.size w w3) := past6 B2.out hb3
      clear hb3 Q2 B2 I2 j3 d2 d3 d4
      have d5 := Q3.out.c5
      have d6 := Q3.out.c6
      have d7 := Q3.out.c7
      cases b3 with
      | false =>
        have HR : Hid (false = R) := HB.out.symm
        go_wp2
        go_ret
        exact ⟨ret_bool HR.out, B3.out⟩
      | true =>
        go_wp2_with fail
        refine (j4 _).mono ?_
        rintro e w4 ⟨rfl, rfl⟩
        clear j4
        cases b4 with
        | false =>
          have HR : Hid (false = R) := HB.out.symm
          go_wp2
          go_ret
          exact ⟨ret_bool HR.out, B3.out⟩
        | true =>
          go_wp2_with fail
          refine (j5 _).mono ?_
          rintro e w5 ⟨rfl, rfl⟩
          clear j5
          cases b5 with
          | false =>
            have HR : Hid (false = R) := HB.out.symm
            go_wp2
            go_ret
            exact ⟨ret_bool HR.out, B3.out⟩
          | true =>
            by_cases hag : o.asked ≤ o.got
            · have da : decide (o.asked ≤ o.got) = true := decide_eq_true hag
              by_cases h0 : 0 ≤ o.ep
              · have d0 : decide (0 ≤ o.ep) = true := decide_eq_true h0
                have HR : Hid (decide (o.ep ≤ 100000) = R) := by show _ = _; rw [HB.out, da, d0]; simp
                go_wp2
                go_ret
                exact ⟨ret_bool HR.out, B3.out⟩
              · have d0 : decide (0 ≤ o.ep) = false := decide_eq_false h0
                have HR : Hid (false = R) := by show _ = _; rw [HB.out, da, d0]; simp
                go_wp2
                go_ret
                exact ⟨ret_bool HR.out, B3.out⟩
            · have da : decide (o.asked ≤ o.got) = false := decide_eq_false hag
              have HR : Hid (false = R) := by show _ = _; rw [HB.out, da]; simp
              go_wp2
              go_ret
              exact ⟨ret_bool HR.out, B3.out⟩
end Go.Proofs.YtemmgfnepdgpbaaGreatDoor
namespace Go.Proofs.YtemmgfnepdgpbaaGreatDoor
open Go.RowKit
set_option linter.unusedVariables false

/-- The block b holds just these cells, and may be written. -/
def Bx (W : World) (b : Nat) (ty : TypeId) (vs : Array Value) : Prop := W.heap[b]? = some (.cells vs ty (0, 0))
theorem Bx.new (W : World) (ty : TypeId) (vs : Array Value) : Bx (W.alloc (.cells vs ty)) W.heap.size ty vs := by
  show (W.heap.push _)[W.heap.size]? = _
  simp
theorem Bx.cell {W : World} {b : Nat} {ty : TypeId} {vs : Array Value} (h : Bx W b ty vs) (i : Nat) : W.cell? ⟨b, i, none⟩ = vs[i]? := by
  have h : W.heap[b]? = some (.cells vs ty (0, 0)) := h
  simp [World.cell?, h]
theorem Bx.free {W : World} {b : Nat} {ty : TypeId} {vs : Array Value} (h : Bx W b ty vs) (i : Nat) : W.frozen? ⟨b, i, none⟩ = false := by
  have h : W.heap[b]? = some (.cells vs ty (0, 0)) := h
  simp [World.frozen?, h]
theorem Bx.lt {W : World} {b : Nat} {ty : TypeId} {vs : Array Value} (h : Bx W b ty vs) : b < W.heap.size := (Array.getElem?_eq_some_iff.1 h).1
theorem Bx.low {W W' : World} {b B : Nat} {ty : TypeId} {vs : Array Value} (h : Bx W b ty vs) (hb : Below B W W') (hB : b < B) : Bx W' b ty vs := (hb.block b hB).trans h
theorem Bx.kept {W W' : World} {b : Nat} {ty : TypeId} {vs : Array Value} (h : Bx W b ty vs) (hb : Below W.heap.size W W') : Bx W' b ty vs := h.low hb h.lt
theorem Bx.grown {W W' : World} {b : Nat} {ty : TypeId} {vs : Array Value} {r : Option Nat} (h : Bx W b ty vs) (hg : W.grownBy W' r) (hr : r ≠ some b) : Bx W' b ty vs := (hg.block b h.lt fun e => hr e.symm).trans h
theorem Bx.put {W : World} {b : Nat} {ty : TypeId} {vs : Array Value} (h : Bx W b ty vs) (i : Nat) (v : Value) : Bx (W.setCell ⟨b, i, none⟩ v) b ty (vs.setIfInBounds i v) := heap_setCell_same W b i _ _ v h
theorem Bx.other {W : World} {b g : Nat} {ty : TypeId} {vs : Array Value} (h : Bx W b ty vs) (i : Nat) (v : Value) (hne : b ≠ g) : Bx (W.setCell ⟨g, i, none⟩ v) b ty vs := (Below.heap_setCell _ _ _ _ hne).trans h
theorem Bx.alloc {W : World} {b : Nat} {ty : TypeId} {vs : Array Value} (h : Bx W b ty vs) (o : Obj) : Bx (W.alloc o) b ty vs := h.kept ((Below.refl _ W).alloc (Nat.le_refl _) _)
theorem Bx.drew {W : World} {b : Nat} {ty : TypeId} {vs : Array Value} (h : Bx W b ty vs) : Bx W.drew b ty vs := h
end Go.Proofs.YtemmgfnepdgpbaaGreatDoor
namespace Go.Proofs.YtemmgfnepdgpbaaGreatDoor
open Go.RowKit Go.Sort St
set_option linter.unusedVariables false
set_option linter.unusedSimpArgs false

theorem implShR3 (a b c : Int) (ha : few a) (hb : few b) (hc : few c) (W : World) (B : Nat) (hB : B = W.heap.size) (ht : TabS W) :
    Calls Tryz.prog 26 #[.slice (some ⟨B, 0, none⟩) 3 3] (W.alloc (.cells #[.int .i64 a, .int .i64 b, .int .i64 c] 2)) fun e w' => e = .returned (.string (txtL (rwL [a, b, c]))) ∧ Below W.heap.size W w' :=
  implShRn [a, b, c] (by simp) (by simp) (by simp [ha, hb, hc]) W B hB ht
theorem implShR4 (a b c d : Int) (ha : few a) (hb : few b) (hc : few c) (hd : few d) (W : World) (B : Nat) (hB : B = W.heap.size) (ht : TabS W) :
    Calls Tryz.prog 26 #[.slice (some ⟨B, 0, none⟩) 4 4] (W.alloc (.cells #[.int .i64 a, .int .i64 b, .int .i64 c, .int .i64 d] 2)) fun e w' => e = .returned (.string (txtL (rwL [a, b, c, d]))) ∧ Below W.heap.size W w' :=
  implShRn [a, b, c, d] (by simp) (by simp) (by simp [ha, hb, hc, hd]) W B hB ht
theorem rw_len3 {a b c : Int} (ha : few a) (hb : few b) (hc : few c) : (txtL (rwL [a, b, c])).size ≤ 48 := by
  have h1 := dd_len ha.2
  have h2 := dd_len hb.2
  have h3 := dd_len hc.2
  rw [txt_sizG, rw_3]
  simp
  omega
theorem rw_len4 {a b c d : Int} (ha : few a) (hb : few b) (hc : few c) (hd : few d) : (txtL (rwL [a, b, c, d])).size ≤ 64 := by
  have h1 := dd_len ha.2
  have h2 := dd_len hb.2
  have h3 := dd_len hc.2
  have h4 := dd_len hd.2
  rw [txt_sizG, rw_4]
  simp
  omega
set_option maxRecDepth 100000 in
set_option maxHeartbeats 8000000 in
theorem implShO (o : Ob) (v u : Value) (w : World) (h : ObIn w v u o) (ht : TabS w) :
    Calls Tryz.prog 8 #[obV o v u] w fun e w' => e = .returned (.string (shwO o)) ∧ Below w.heap.size w w' := by
  have j1 := fun W hW => implObOk o v u W hW
  have HR : Hid (shwO o = if obB o = true then txtL (shoL o) else ⟨#[]⟩) := rfl
  obtain ⟨va, vc, rfl⟩ := h.1.form
  obtain ⟨ua, uc, rfl⟩ := h.2.1.1.form
  have P0 : Hid (Og w (w.alloc (.cells #[.string o.k, .slice va o.l.length vc, .int .i64 o.r.s, .slice ua o.r.l.length uc, .string o.r.b, .int .i64 o.asked, .int .i64 o.got, .int .i64 o.ep] 28)) o (.slice va o.l.length vc) (.slice ua o.r.l.length uc)) := (show Og w _ o _ _ from Og.new w o _ _ h)
  have HT : Hid (TabS w) := ht
  generalize shwO o = R at HR ⊢
  clear h ht
  unfold obV at *
  cases hB : obB o with
  | false =>
    have HE : Hid (R = ⟨#[]⟩) := by show _ = _; rw [HR.out, hB]; rfl
    rw [hB] at j1
    clear HR HT hB
    go_enter Tryz.func8, Tryz.ntmps8
    generalize hwA : w.alloc (.cells #[.string o.k, .slice va o.l.length vc, .int .i64 o.r.s, .slice ua o.r.l.length uc, .string o.r.b, .int .i64 o.asked, .int .i64 o.got, .int .i64 o.ep] 28) = wA at P0
    obtain ⟨q0, q1, q2, q3, q4, q5, q6, q7, qf, qh⟩ := P0.out.ob
    go_wp2_with fail
    refine (j1 _ P0.out.inn).mono ?_
    rintro e w1 ⟨rfl, hb1⟩
    have B1 : Hid (Below w.heap.size w w1) := (show Below _ _ _ from past6 P0.out.low hb1)
    clear P0 hb1 q0 q1 q2 q3 q4 q5 q6 q7 qf qh hwA j1
    go_wp2
    go_ret
    exact ⟨by rw [HE.out]; rfl, B1.out⟩
  | true =>
    have hk := obOk hB
    have hfl := (fldsOk_parts hk.fl).1
    have hrl := (fldsOk_parts hk.rl).1
    have hst := hk.st
    have hbd := hk.bd
    have hep := hk.ep
    have zK := hk.ksz
    have wA' : few o.asked := few_of hk.asked (by decide)
    have wG' : few o.got := few_of hk.got (by decide)
    have wE' : few o.ep := few_of hk.ep (by decide)
    have w1' : few (o.l.length : Int) := ⟨by omega, by omega⟩
    have w2' : few o.r.s := ⟨by omega, by omega⟩
    have w3' : few (o.r.l.length : Int) := ⟨by omega, by omega⟩
    have w4' : few (o.r.b.size : Int) := ⟨by omega, by omega⟩
    have i3 := implShR3 o.asked o.got o.ep wA' wG' wE'
    have i4 := implShR4 (o.l.length : Int) o.r.s (o.r.l.length : Int) (o.r.b.size : Int) w1' w2' w3' w4'
    have z3 := rw_len3 wA' wG' wE'
    have z4 := rw_len4 w1' w2' w3' w4'
    have eF1 : showA o.l = txtL (showL o.l) := (showA_yes hk.fl).symm
    have eF2 : showA o.r.l = txtL (showL o.r.l) := (showA_yes hk.rl).symm
    have f1 := fun W (hW : Fits W (.slice va o.l.length vc) o.l) => implShow _ o.l W hW.1 hW.2.1
    have f2 := fun W (hW : Fits W (.slice ua o.r.l.length uc) o.r.l) => implShow _ o.r.l W hW.1 hW.2.1
    rw [eF1] at f1
    rw [eF2] at f2
    have zf1 : (txtL (showL o.l)).size ≤ 14040 := by rw [txt_sizG]; exact showL_len hk.fl
    have zf2 : (txtL (showL o.r.l)).size ≤ 14040 := by rw [txt_sizG]; exact showL_len hk.rl
    have HT2 : Hid (∀ S, S = (o.k ++ (⟨#[10]⟩ : ByteArray)) ++ txtL (rwL [o.asked, o.got, o.ep]) → ∀ S2, S2 = S ++ txtL (rwL [(o.l.length : Int), o.r.s, (o.r.l.length : Int), (o.r.b.size : Int)]) → (((S2 ++ txtL (showL o.l)) ++ txtL (showL o.r.l)) ++ o.r.b) ++ (⟨#[10]⟩ : ByteArray) = R) := (show ∀ _, _ from by
      rintro S rfl S2 rfl
      rw [HR.out, if_pos hB]
      apply bytes_extG
      rw [txt_lstG, rw_3, rw_4]
      unfold shoL hdL
      simp [txtL])
    replace HT2 := HT2.out _ rfl _ rfl
    have HT3 : Hid (_ = R) := HT2
    rw [hB] at j1
    clear HT2 HR hk hep hB wA' wG' wE' w1' w2' w3' w4' eF1 eF2
    generalize txtL (rwL [o.asked, o.got, o.ep]) = N3 at i3 z3 HT3
    generalize txtL (rwL [(o.l.length : Int), o.r.s, (o.r.l.length : Int), (o.r.b.size : Int)]) = N4 at i4 z4 HT3
    generalize txtL (showL o.l) = F1 at f1 zf1 HT3
    generalize txtL (showL o.r.l) = F2 at f2 zf2 HT3
    go_enter Tryz.func8, Tryz.ntmps8
    generalize hwA : w.alloc (.cells #[.string o.k, .slice va o.l.length vc, .int .i64 o.r.s, .slice ua o.r.l.length uc, .string o.r.b, .int .i64 o.asked, .int .i64 o.got, .int .i64 o.ep] 28) = wA at P0
    obtain ⟨q0, q1, q2, q3, q4, q5, q6, q7, qf, qh⟩ := P0.out.ob
    go_wp2_with fail
    refine (j1 _ P0.out.inn).mono ?_
    rintro e w1 ⟨rfl, hb1⟩
    have P1 : Hid (Og w (w1.alloc (.cells #[.int .i64 o.r.s, .slice ua o.r.l.length uc, .string o.r.b] 26)) o (.slice va o.l.length vc) (.slice ua o.r.l.length uc)) := (show Og w _ o _ _ from (P0.out.kept hb1).kept ((Below.refl _ w1).alloc (Nat.le_refl _) _))
    have X1 : Hid (Bx (w1.alloc (.cells #[.int .i64 o.r.s, .slice ua o.r.l.length uc, .string o.r.b] 26)) w1.heap.size 26 #[.int .i64 o.r.s, .slice ua o.r.l.length uc, .string o.r.b]) := (show Bx _ _ _ _ from Bx.new _ _ _)
    have Q1 : Hid (Og w w1 o (.slice va o.l.length vc) (.slice ua o.r.l.length uc)) := (show Og w _ o _ _ from P0.out.kept hb1)
    clear P0 hb1 q0 q1 q2 q3 q4 q5 q6 q7 qf qh hwA j1
    obtain ⟨q0, q1, q2, q3, q4, q5, q6, q7, qf, qh⟩ := Q1.out.ob
    have T1 := HT.out.low P1.out.low
    have i3' := i3 _ (w1.heap.size + 1) (by simp) T1
    have y0 : (o.k ++ (⟨#[10]⟩ : ByteArray)).size = o.k.size + 1 := by rw [ByteArray.size_append]; rfl
    go_wp2_with fail
    refine i3'.mono ?_
    rintro e w2 ⟨rfl, hb2⟩
    have P2 : Hid (Og w w2 o (.slice va o.l.length vc) (.slice ua o.r.l.length uc)) := (show Og w _ o _ _ from P1.out.kept hb2)
    have X2 : Hid (Bx w2 w1.heap.size 26 #[.int .i64 o.r.s, .slice ua o.r.l.length uc, .string o.r.b]) := X1.out.kept hb2
    clear Q1 P1 X1 hb2 q0 q1 q2 q3 q4 q5 q6 q7 qf qh T1 i3 i3'
    have hS1 : ((o.k ++ (⟨#[10]⟩ : ByteArray)) ++ N3).size = o.k.size + 1 + N3.size := by rw [ByteArray.size_append, y0]
    obtain ⟨r0, r1, r2, r3, r4, r5, r6, r7, rf, rh⟩ := P2.out.ob
    have x0 := X2.out.cell 0
    have x1 := X2.out.cell 1
    have x2 := X2.out.cell 2
    simp only [List.getElem?_toArray, List.getElem?_cons_zero, List.getElem?_cons_succ] at x0 x1 x2
    have i4' := i4 w2 _ rfl (HT.out.low P2.out.low)
    go_wp2_with fail
    refine i4'.mono ?_
    rintro e w3 ⟨rfl, hb3⟩
    have P3 : Hid (Og w w3 o (.slice va o.l.length vc) (.slice ua o.r.l.length uc)) := (show Og w _ o _ _ from P2.out.kept hb3)
    have X3 : Hid (Bx w3 w1.heap.size 26 #[.int .i64 o.r.s, .slice ua o.r.l.length uc, .string o.r.b]) := X2.out.kept hb3
    clear P2 X2 hb3 r0 r1 r2 r3 r4 r5 r6 r7 rf rh x0 x1 x2 i4 i4'
    have hS2 : (((o.k ++ (⟨#[10]⟩ : ByteArray)) ++ N3) ++ N4).size = o.k.size + 1 + N3.size + N4.size := by rw [ByteArray.size_append, hS1]
    go_wp2_with fail
    have hS2' : (((o.k ++ (⟨#[10]⟩ : ByteArray)) ++ N3) ++ N4).size ≤ 700 := by omega
    generalize (((o.k ++ (⟨#[10]⟩ : ByteArray)) ++ N3) ++ N4) = S2 at HT3 hS2' ⊢
    clear y0 hS1 hS2
    have y0 : (S2 ++ F1).size = S2.size + F1.size := by rw [ByteArray.size_append]
    have y1 : ((S2 ++ F1) ++ F2).size = S2.size + F1.size + F2.size := by rw [ByteArray.size_append, y0]
    have y2 : (((S2 ++ F1) ++ F2) ++ o.r.b).size = S2.size + F1.size + F2.size + o.r.b.size := by rw [ByteArray.size_append, y1]
    have y3 : ((((S2 ++ F1) ++ F2) ++ o.r.b) ++ (⟨#[10]⟩ : ByteArray)).size = S2.size + F1.size + F2.size + o.r.b.size + 1 := by rw [ByteArray.size_append, y2]; rfl
    have k1 := cell_regrown P3.out.ob.c1
    have x1 := X3.out.cell 1
    have x2 := X3.out.cell 2
    simp only [List.getElem?_toArray, List.getElem?_cons_zero, List.getElem?_cons_succ] at x1 x2
    have l1 := cell_regrown x1
    have l2 := cell_regrown x2
    have g1 : ∀ d os, Calls Tryz.prog 27 #[.slice va o.l.length vc] (grow (redrawn w3 d) os) fun e w'' => e = .returned (.string F1) ∧ ∃ p : Regrown, w'' = grow (redrawn w3 p.d) p.os := fun d os => Calls.regrown_of (f1 _ (P3.out.inn.1.kept (below_regrown w3 d os)))
    have g2 : ∀ d os, Calls Tryz.prog 27 #[.slice ua o.r.l.length uc] (grow (redrawn w3 d) os) fun e w'' => e = .returned (.string F2) ∧ ∃ p : Regrown, w'' = grow (redrawn w3 p.d) p.os := fun d os => Calls.regrown_of (f2 _ (P3.out.inn.2.1.1.kept (below_regrown w3 d os)))
    clear f1 f2 x1 x2
    refine wp_region_quiet_below (by kernel_rfl) (by kernel_rfl) ?_
    repeat (go_big_quiet_step (first | (with_reducible exact g1 _ _) | (with_reducible exact g2 _ _)))
    refine wpQuiet_nil ?_
    intro _ hw'
    obtain ⟨⟨dq3, osq3⟩, hw''⟩ := hw'
    subst hw''
    have B3 : Hid (Below w.heap.size w (grow (redrawn w3 dq3) osq3)) := (show Below _ _ _ from past6 P3.out.low (below_regrown w3 dq3 osq3))
    clear P3 X3 k1 l1 l2 g1 g2
    go_wp2
    go_ret
    exact ⟨by rw [← HT3.out]; rfl, B3.out⟩
end Go.Proofs.YtemmgfnepdgpbaaGreatDoor
namespace Go.Proofs.YtemmgfnepdgpbaaGreatDoor
open Go.RowKit Go.Sort St
set_option linter.unusedVariables false
set_option linter.unusedSimpArgs false

/-- The answer's box, and Below. -/
structure Zb (w W : World) : Prop where
  low : Below w.heap.size w W
  zx : ObB W w.heap.size noO (.slice none 0 0) (.slice none 0 0)
theorem Zb.kept {w W W' : World} (h : Zb w W) (hb : Below W.heap.size W W') : Zb w W' := ⟨h.low.trans (hb.mono h.low.size), h.zx.next hb⟩
theorem Zb.new (w : World) : Zb w (w.alloc (.cells #[.string ⟨#[]⟩, .slice none 0 0, .int .i64 0, .slice none 0 0, .string ⟨#[]⟩, .int .i64 0, .int .i64 0, .int .i64 0] 28)) :=
  ⟨(Below.refl _ w).alloc (Nat.le_refl _) _, ObB.new w noO (.slice none 0 0) (.slice none 0 0) 28⟩
/-- The code from a region on. -/
def cutR (n : Nat) : Code → Code
  | .seq (.region m o d) b => if m = n then .seq (.region m o d) b else cutR n b
  | .seq a b => cutR n b
  | c => c
noncomputable def rd14 : Code := cutR 14 (Tryz.f15.body.getD .skip)
set_option maxRecDepth 100000 in
def frSe (s : Nat → Value) : Act := { tmps := #[s 0, s 1, s 2, s 3, s 4, s 5, s 6, s 7, s 8, s 9, s 10, s 11, s 12, s 13, s 14, s 15, s 16, s 17, s 18, s 19, s 20, s 21, s 22, s 23, s 24, s 25, s 26, s 27, s 28, s 29, s 30, s 31, s 32, s 33, s 34, s 35, s 36, s 37, s 38, s 39, s 40, s 41, s 42, s 43, s 44, s 45, s 46, s 47, s 48, s 49, s 50, s 51, s 52, s 53, s 54, s 55, s 56, s 57, s 58, s 59, s 60, s 61, s 62, s 63, s 64, s 65, s 66, s 67, s 68, s 69, s 70, s 71, s 72, s 73, s 74, s 75, s 76, s 77, s 78, s 79, s 80, s 81, s 82, s 83, s 84, s 85, s 86, s 87, s 88, s 89, s 90, s 91, s 92, s 93, s 94, s 95, s 96, s 97, s 98, s 99, s 100, s 101, s 102, s 103, s 104, s 105, s 106, s 107, s 108, s 109, s 110, s 111, s 112, s 113, s 114, s 115, s 116, s 117, s 118, s 119, s 120, s 121, s 122, s 123, s 124, s 125, s 126, s 127, s 128, s 129, s 130, s 131, s 132, s 133, s 134, s 135, s 136, s 137, s 138, s 139, s 140, s 141, s 142, s 143, s 144, s 145, s 146, s 147, s 148, s 149, s 150, s 151, s 152, s 153, s 154, s 155, s 156, s 157, s 158, s 159, s 160, s 161, s 162, s 163, s 164, s 165, s 166, s 167, s 168, s 169, s 170, s 171, s 172, s 173], defers := [] }
set_option maxRecDepth 100000 in
set_option maxHeartbeats 16000000 in
theorem rdTail14 (t : ByteArray) (w w6 : World) (R : Option Ob) (O : Ob) (q6 lo mid : Nat) (fa ga : Option Addr) (fc gc : Nat) (s : Nat → Value)
    (ht : t.size ≤ 1048576) (s0 : s 0 = .string t) (s2 : s 2 = .pointer (some ⟨w.heap.size, 0, none⟩)) (s25 : s 25 = .pointer (some ⟨q6, 0, none⟩))
    (Z6 : Hid (Zb w w6)) (OL6 : Hid (OwnsF w6 lo (.slice fa O.l.length fc) O.l)) (OM6 : Hid (OwnsF w6 mid (.slice ga O.r.l.length gc) O.r.l)) (OX6 : Hid (ObB w6 q6 O (.slice fa O.l.length fc) (.slice ga O.r.l.length gc)))
    (hlo : w.heap.size < lo) (hmid : lo ≤ mid) (hUL : Hid (∀ g, (Value.slice fa O.l.length fc).ownBlock = some g → g < mid)) (hIN : Hid (ObIn w6 (.slice fa O.l.length fc) (.slice ga O.r.l.length gc) O)) (HLO : Hid (R = lastO t.data.toList O)) :
    Code.wp Tryz.prog rd14 (bodyPost Tryz.prog Tryz.f15 fun e w' => ∃ z : RoR, e = .returned (.tuple #[obV z.o z.v z.u, .int .i64 z.n, .bool z.b]) ∧ RoQ w w' R z) (frSe s) w6 := by
  have jS : Hid (Calls Tryz.prog 9 #[obV O (.slice fa O.l.length fc) (.slice ga O.r.l.length gc)] w6 fun e w' => e = .returned (.string (shwO O)) ∧ Below w6.heap.size w6 w') := (show Calls _ _ _ _ _ from specShO O (.slice fa O.l.length fc) (.slice ga O.r.l.length gc) w6 hIN.out)
  have HSW : Hid (shwO O = if obB O = true then txtL (shoL O) else ⟨#[]⟩) := rfl
  obtain ⟨S, hS⟩ : ∃ S, shwO O = S := ⟨_, rfl⟩
  rw [hS] at jS HSW
  unfold obV at jS
  clear hS
  obtain ⟨o0, o1, o2, o3, o4, o5, o6, o7, of, oh⟩ := OX6.out
  conv => arg 2; whnf
  unfold frSe
  go_wp2_with fail
  refine jS.out.mono ?_
  rintro e w7 ⟨rfl, hb7⟩
  have Z7 : Hid (Zb w w7) := (show Zb w w7 from Z6.out.kept hb7)
  have OL7 : Hid (OwnsF w7 lo (.slice fa O.l.length fc) O.l) := (show OwnsF _ _ _ _ from OL6.out.kept hb7)
  have OM7 : Hid (OwnsF w7 mid (.slice ga O.r.l.length gc) O.r.l) := (show OwnsF _ _ _ _ from OM6.out.kept hb7)
  have OX7 : Hid (ObB w7 q6 O (.slice fa O.l.length fc) (.slice ga O.r.l.length gc)) := (show ObB _ _ _ _ _ from OX6.out.next hb7)
  have ZX : Hid (ObB w7 w.heap.size noO (.slice none 0 0) (.slice none 0 0)) := (show ObB _ _ _ _ _ from Z7.out.zx)
  have ZB : Hid (Below w.heap.size w w7) := (show Below _ _ _ from Z7.out.low)
  clear hb7 jS o0 o1 o2 o3 o4 o5 o6 o7 of oh Z6 OL6 OM6 OX6 hIN
  have hSv := void_ofG (s := S)
  by_cases hS0 : S.size = 0
  · have HR0 : Hid (R = none) := (show _ = _ by
      have hB : ¬ obB O = true := fun hB => by
        have := HSW.out
        rw [if_pos hB] at this
        have h2 := sho_pos (o := O)
        rw [this, txt_sizG] at hS0
        omega
      rw [HLO.out]
      unfold lastO
      rw [if_neg (fun h => hB h.1)])
    rw [decide_eq_true hS0] at hSv
    clear HSW HLO hS0
    have HR : Hid (R = none) := HR0.out
    obtain ⟨z0, z1, z2, z3, z4, z5, z6, z7, zf, zh⟩ := ZX.out
    have HP : Hid (ObB (putL w7 w.heap.size (obL noO (.slice none 0 0) (.slice none 0 0)) 0) w.heap.size noO (.slice none 0 0) (.slice none 0 0)) := ZX.out.puts noO (.slice none 0 0) (.slice none 0 0)
    have BP : Hid (Below w.heap.size w (putL w7 w.heap.size (obL noO (.slice none 0 0) (.slice none 0 0)) 0)) := putL_below (Nat.le_refl _) _ 0 ZB.out
    simp only [noO, noS] at z0 z1 z2 z3 z4 z5 z6 z7
    go_wp2
    obtain ⟨p0, p1, p2, p3, p4, p5, p6, p7, pf, ph⟩ := HP.out
    have bp := BP.out
    simp only [obL, noO, noS, putL, Nat.zero_add, Nat.reduceAdd] at p0 p1 p2 p3 p4 p5 p6 p7 bp
    refine bodyPost_ret (v := .tuple #[obV noO (.slice none 0 0) (.slice none 0 0), .int .i64 0, .bool false]) (by unfold obV noO noS; simp [results, Tryz.results15, go_sem, s2, p0, p1, p2, p3, p4, p5, p6, p7]) rfl (ro_no HR.out bp)
  · rw [decide_eq_false hS0] at hSv
    have hOB : obB O = true := Classical.byContradiction fun hB => by
      have := HSW.out
      rw [if_neg hB] at this
      rw [this] at hS0
      exact hS0 rfl
    have hSS : S = txtL (shoL O) := by have := HSW.out; rw [if_pos hOB] at this; exact this
    have hPI := pre_iffG (r := S) (d := t)
    have hSl : S.data.toList = shoL O := by rw [hSS]; exact txt_lstG _
    have hSz : S.size = (shoL O).length := by rw [hSS]; exact txt_sizG _
    rw [hSl] at hPI
    have HPI : Hid (shoL O <+: t.data.toList ↔ S.size ≤ t.size ∧ t.extract 0 S.size = S) := hPI
    have HSZ : Hid (S.size = (shoL O).length) := hSz
    have HY : Hid (shoL O <+: t.data.toList → R = some O) := (show _ → _ from fun h => by rw [HLO.out]; unfold lastO; rw [if_pos ⟨hOB, h⟩])
    have HN : Hid (¬ shoL O <+: t.data.toList → R = none) := (show _ → _ from fun h => by rw [HLO.out]; unfold lastO; rw [if_neg (fun hh => h hh.2)])
    have hSb := sho_len hOB
    rw [← hSz] at hSb
    clear hSS hPI hSl hSz hOB HSW HLO hS0
    by_cases hlr : t.size < S.size
    · have hlri : (t.size : Int) < (S.size : Int) := by omega
      have HR0 : Hid (R = none) := HN.out (fun h => by have := (HPI.out.1 h).1; omega)
      clear HPI HY HN
      have HR : Hid (R = none) := HR0.out
      obtain ⟨z0, z1, z2, z3, z4, z5, z6, z7, zf, zh⟩ := ZX.out
      have HP : Hid (ObB (putL w7 w.heap.size (obL noO (.slice none 0 0) (.slice none 0 0)) 0) w.heap.size noO (.slice none 0 0) (.slice none 0 0)) := ZX.out.puts noO (.slice none 0 0) (.slice none 0 0)
      have BP : Hid (Below w.heap.size w (putL w7 w.heap.size (obL noO (.slice none 0 0) (.slice none 0 0)) 0)) := putL_below (Nat.le_refl _) _ 0 ZB.out
      simp only [noO, noS] at z0 z1 z2 z3 z4 z5 z6 z7
      go_wp2
      obtain ⟨p0, p1, p2, p3, p4, p5, p6, p7, pf, ph⟩ := HP.out
      have bp := BP.out
      simp only [obL, noO, noS, putL, Nat.zero_add, Nat.reduceAdd] at p0 p1 p2 p3 p4 p5 p6 p7 bp
      refine bodyPost_ret (v := .tuple #[obV noO (.slice none 0 0) (.slice none 0 0), .int .i64 0, .bool false]) (by unfold obV noO noS; simp [results, Tryz.results15, go_sem, s2, p0, p1, p2, p3, p4, p5, p6, p7]) rfl (ro_no HR.out bp)
    · have hlri : ¬ (t.size : Int) < (S.size : Int) := by omega
      by_cases hpe : t.extract 0 S.size = S
      · have hcm : ((t.extract 0 S.size).toList == S.toList) = true := by simp [bytes_sameG, hpe]
        have HR : Hid (R = some O) := HY.out (HPI.out.2 ⟨by omega, hpe⟩)
        obtain ⟨o0, o1, o2, o3, o4, o5, o6, o7, of, oh⟩ := OX7.out
        obtain ⟨z0, z1, z2, z3, z4, z5, z6, z7, zf, zh⟩ := ZX.out
        have HP : Hid (ObB (putL w7 w.heap.size (obL O (.slice fa O.l.length fc) (.slice ga O.r.l.length gc)) 0) w.heap.size O (.slice fa O.l.length fc) (.slice ga O.r.l.length gc)) := ZX.out.puts O _ _
        have BP : Hid (Below w.heap.size w (putL w7 w.heap.size (obL O (.slice fa O.l.length fc) (.slice ga O.r.l.length gc)) 0)) := putL_below (Nat.le_refl _) _ 0 ZB.out
        have VP : Hid (OwnsF (putL w7 w.heap.size (obL O (.slice fa O.l.length fc) (.slice ga O.r.l.length gc)) 0) w.heap.size (.slice fa O.l.length fc) O.l) := (show OwnsF _ _ _ _ from (putLS OL7.out hlo _ 0).low (Nat.le_of_lt hlo))
        have UP : Hid (OwnsF (putL w7 w.heap.size (obL O (.slice fa O.l.length fc) (.slice ga O.r.l.length gc)) 0) w.heap.size (.slice ga O.r.l.length gc) O.r.l) := (show OwnsF _ _ _ _ from (putLS OM7.out (by omega) _ 0).low (by omega))
        have HNE : Hid (∀ g, (Value.slice fa O.l.length fc).ownBlock = some g → (Value.slice ga O.r.l.length gc).ownBlock ≠ some g) := (show ∀ _, _ from fun g h1 h2 => by have := hUL.out g h1; have := OM7.out.from g h2; omega)
        simp only [noO, noS] at z0 z1 z2 z3 z4 z5 z6 z7
        clear HY HN HPI hpe ZX ZB OL7 OM7 OX7 Z7
        go_wp2
        obtain ⟨p0, p1, p2, p3, p4, p5, p6, p7, pf, ph⟩ := HP.out
        have bp := BP.out
        have vp := VP.out
        have up := UP.out
        simp only [obL, putL, Nat.zero_add, Nat.reduceAdd] at p0 p1 p2 p3 p4 p5 p6 p7 bp vp up
        refine bodyPost_ret (v := .tuple #[obV O (.slice fa O.l.length fc) (.slice ga O.r.l.length gc), .int .i64 (S.size : Int), .bool true]) (by unfold obV; simp [results, Tryz.results15, go_sem, s2, p0, p1, p2, p3, p4, p5, p6, p7]) rfl (ro_yes HR.out (by rw [HSZ.out]) vp up HNE.out bp)
      · have hcm : ((t.extract 0 S.size).toList == S.toList) = false := by simp [bytes_sameG, hpe]
        have HR0 : Hid (R = none) := HN.out (fun h => hpe (HPI.out.1 h).2)
        clear HPI HY HN hpe
        have HR : Hid (R = none) := HR0.out
        obtain ⟨z0, z1, z2, z3, z4, z5, z6, z7, zf, zh⟩ := ZX.out
        have HP : Hid (ObB (putL w7 w.heap.size (obL noO (.slice none 0 0) (.slice none 0 0)) 0) w.heap.size noO (.slice none 0 0) (.slice none 0 0)) := ZX.out.puts noO (.slice none 0 0) (.slice none 0 0)
        have BP : Hid (Below w.heap.size w (putL w7 w.heap.size (obL noO (.slice none 0 0) (.slice none 0 0)) 0)) := putL_below (Nat.le_refl _) _ 0 ZB.out
        simp only [noO, noS] at z0 z1 z2 z3 z4 z5 z6 z7
        go_wp2
        obtain ⟨p0, p1, p2, p3, p4, p5, p6, p7, pf, ph⟩ := HP.out
        have bp := BP.out
        simp only [obL, noO, noS, putL, Nat.zero_add, Nat.reduceAdd] at p0 p1 p2 p3 p4 p5 p6 p7 bp
        refine bodyPost_ret (v := .tuple #[obV noO (.slice none 0 0) (.slice none 0 0), .int .i64 0, .bool false]) (by unfold obV noO noS; simp [results, Tryz.results15, go_sem, s2, p0, p1, p2, p3, p4, p5, p6, p7]) rfl (ro_no HR.out bp)
end Go.Proofs.YtemmgfnepdgpbaaGreatDoor
