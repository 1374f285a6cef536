/-
  The specification's policy by its contracts: keys, moments, what is a right object.
  The specification's ShowObject by its contract.
  Requests and responses that came in, opened; the laws' own helpers for them, by their contracts.
  Objects that came in, opened; how large they are, by the laws' own measure.
-/
import Derived.Test.YtemmgfnepdgpbaaGreatDoorK10
import Derived.Test.YtemmgfnepdgpbaaGreatDoorK19
import Derived.Test.YtemmgfnepdgpbaaGreatDoorK18
import Derived.Test.YtemmgfnepdgpbaaGreatDoorK21
import Derived.Test.YtemmgfnepdgpbaaGreatDoorK16
import Derived.Lib.QuietBelow
import Derived.Test.YtemmgfnepdgpbaaGreatDoorK17
import Derived.ProofKit
import Derived.OpenShut
import Derived.ShutString
import Derived.Lib.SmallJoins
namespace Go.Proofs.YtemmgfnepdgpbaaGreatDoor
open Go.RowKit Go.Sort
set_option linter.unusedVariables false

set_option maxHeartbeats 1000000 in
theorem specKeyO (s : ByteArray) (w : World) (hs : s.size ≤ 1048576) :
    Calls Tryz.prog 29 #[.string s] w fun e w' => e = .returned (.bool (keyO s)) ∧ w = w' := by
  have HK : Hid (keyO s = (allB keyN s.data.toList && decide (s.size ≤ 500))) := rfl
  generalize keyO s = K at HK ⊢
  go_enter Tryz.func29, Tryz.ntmps29
  go_wp2
  go_loop [3] (fun i => ∃ k : Nat, k ≤ s.size ∧ i = .int .i64 k ∧ Hid (allB keyN (s.data.toList.take k) = true)) (fun i => s.size - (intOf i).toNat)
  case atStart => exact ⟨0, Nat.zero_le _, rfl, allB_nil _ _⟩
  case round =>
    obtain ⟨k, hk, rfl, ha⟩ := hrel
    by_cases hlt : k < s.size
    · by_cases hl : (s[k].toNat : Int) < 33
      · have HF : Hid (false = K) := by show _ = _; rw [HK.out, ← allB_not (p := keyN) hlt (keyN_no (by omega))]; rfl
        go_wp2
        go_ret
        exact ⟨ret_bool HF.out, rfl⟩
      · by_cases hg : 126 < (s[k].toNat : Int)
        · have HF : Hid (false = K) := by show _ = _; rw [HK.out, ← allB_not (p := keyN) hlt (keyN_no (by omega))]; rfl
          go_wp2
          go_ret
          exact ⟨ret_bool HF.out, rfl⟩
        · have HV : Hid (allB keyN (s.data.toList.take (k + 1)) = true) := allB_step hlt ha.out (keyN_yes (by omega))
          go_wp2
          go_round
          case rel => exact ⟨k + 1, by omega, by go_num, HV⟩
          case measure => simp [intOf]; omega
    · have HE : Hid (decide ((s.size : Int) ≤ 500) = K) := by
        show _ = _
        have e : s.data.toList.take k = s.data.toList := List.take_of_length_le (by simp; omega)
        have h2 := ha.out
        rw [e] at h2
        rw [HK.out, h2, Bool.true_and]
        by_cases h5 : s.size ≤ 500
        · rw [decide_eq_true h5, decide_eq_true (by omega)]
        · rw [decide_eq_false h5, decide_eq_false (by omega)]
      go_wp2
      go_ret
      exact ⟨ret_bool HE.out, rfl⟩
theorem specMomB (n : Int) (w : World) : Calls Tryz.prog 32 #[.int .i64 n] w fun e w' => e = .returned (.bool (momB n)) ∧ w = w' := by
  have h := fun W => specIn9 n 0 253402300799 W
  change ∀ W, Calls _ _ _ _ fun e w' => e = .returned (.bool (momB n)) ∧ W = w' at h
  generalize momB n = b at h ⊢
  go_enter Tryz.func32, Tryz.ntmps32
  go_wp2_with (go_at_call 33; refine (h _).mono ?_; rintro e w1 ⟨rfl, rfl⟩)
  go_ret
  exact ⟨rfl, rfl⟩
/-- The cells of an object in block b. -/
structure ObB (w : World) (b : Nat) (o : Ob) (v u : Value) : Prop where
  c0 : w.cell? ⟨b, 0, none⟩ = some (.string o.k)
  c1 : w.cell? ⟨b, 1, none⟩ = some v
  c2 : w.cell? ⟨b, 2, none⟩ = some (.int .i64 o.r.s)
  c3 : w.cell? ⟨b, 3, none⟩ = some u
  c4 : w.cell? ⟨b, 4, none⟩ = some (.string o.r.b)
  c5 : w.cell? ⟨b, 5, none⟩ = some (.int .i64 o.asked)
  c6 : w.cell? ⟨b, 6, none⟩ = some (.int .i64 o.got)
  c7 : w.cell? ⟨b, 7, none⟩ = some (.int .i64 o.ep)
  fz : ∀ k, w.frozen? ⟨b, k, none⟩ = false
  hi : b < w.heap.size
theorem ObB.new (w : World) (o : Ob) (v u : Value) (t : TypeId) : ObB (w.alloc (.cells #[.string o.k, v, .int .i64 o.r.s, u, .string o.r.b, .int .i64 o.asked, .int .i64 o.got, .int .i64 o.ep] t)) w.heap.size o v u where
  c0 := World.cell?_alloc_mark _ _ _ _ _
  c1 := World.cell?_alloc_mark _ _ _ _ _
  c2 := World.cell?_alloc_mark _ _ _ _ _
  c3 := World.cell?_alloc_mark _ _ _ _ _
  c4 := World.cell?_alloc_mark _ _ _ _ _
  c5 := World.cell?_alloc_mark _ _ _ _ _
  c6 := World.cell?_alloc_mark _ _ _ _ _
  c7 := World.cell?_alloc_mark _ _ _ _ _
  fz := fun k => by rw [World.frozen?_alloc_mark]; simp
  hi := by simp
theorem ObB.next {w w' : World} {b : Nat} {o : Ob} {v u : Value} (h : ObB w b o v u) (hb : Below w.heap.size w w') : ObB w' b o v u := by
  have e : w'.heap[b]? = w.heap[b]? := hb.block b h.hi
  have k : ∀ k, w'.cell? ⟨b, k, none⟩ = w.cell? ⟨b, k, none⟩ := fun k => World.cell?_of_block (a := ⟨b, k, none⟩) e
  exact ⟨(k 0).trans h.c0, (k 1).trans h.c1, (k 2).trans h.c2, (k 3).trans h.c3, (k 4).trans h.c4, (k 5).trans h.c5, (k 6).trans h.c6, (k 7).trans h.c7, fun j => (World.frozen?_of_block (a := ⟨b, j, none⟩) e).trans (h.fz j), Nat.lt_of_lt_of_le h.hi hb.size⟩
/-- What a walk is told of an object that came in. -/
def ObIn (w : World) (v u : Value) (o : Ob) : Prop := Fits w v o.l ∧ RsIn w u o.r ∧ o.k.size ≤ 1048576
theorem ObIn.kept {w w' : World} {v u : Value} {o : Ob} (h : ObIn w v u o) (hb : Below w.heap.size w w') : ObIn w' v u o := ⟨h.1.kept hb, h.2.1.kept hb, h.2.2⟩
theorem Fits.form {w : World} {v : Value} {l : List Fl} (h : Fits w v l) : ∃ a cap, v = .slice a l.length cap := by
  obtain ⟨a, cap, hv, _⟩ := h.1
  exact ⟨a, cap, hv⟩
set_option maxHeartbeats 4000000 in
theorem specObOk (o : Ob) (v u : Value) (w : World) (h : ObIn w v u o) :
    Calls Tryz.prog 10 #[obV o v u] w fun e w' => e = .returned (.bool (obB o)) ∧ Below w.heap.size w w' := by
  have HB : Hid (obB o = (keyO o.k && (fldsOk o.l && (rsOk o.r && (momB o.asked && (momB o.got && (decide (o.asked ≤ o.got) && (decide (0 ≤ o.ep) && decide (o.ep ≤ 100000))))))))) := rfl
  have j1 := fun W => specKeyO o.k W h.2.2
  have j2 := fun W (hW : Fits W v o.l) => specOk v o.l W hW.1 hW.2.1
  have j3 := fun W hW => specRsOk o.r u W hW
  have j4 := fun W => specMomB o.asked W
  have j5 := fun W => specMomB o.got W
  have j6 := fun W => specIn9 o.ep 0 100000 W
  generalize (decide (0 ≤ o.ep) && decide (o.ep ≤ 100000)) = b6 at HB j6
  generalize obB o = R at HB ⊢
  generalize keyO o.k = b1 at HB j1
  generalize fldsOk o.l = b2 at HB j2
  generalize rsOk o.r = b3 at HB j3
  generalize momB o.asked = b4 at HB j4
  generalize momB o.got = b5 at HB j5
  obtain ⟨va, vc, rfl⟩ := h.1.form
  obtain ⟨ua, uc, rfl⟩ := h.2.1.1.form
  have Q0 : Hid (ObB (w.alloc (.cells #[.string o.k, .slice va o.l.length vc, .int .i64 o.r.s, .slice ua o.r.l.length uc, .string o.r.b, .int .i64 o.asked, .int .i64 o.got, .int .i64 o.ep] 28)) w.heap.size o (.slice va o.l.length vc) (.slice ua o.r.l.length uc)) := ObB.new w o _ _ _
  have B0 : Hid (Below w.heap.size w (w.alloc (.cells #[.string o.k, .slice va o.l.length vc, .int .i64 o.r.s, .slice ua o.r.l.length uc, .string o.r.b, .int .i64 o.asked, .int .i64 o.got, .int .i64 o.ep] 28))) := (Below.refl _ w).alloc (Nat.le_refl _) _
  have I0 : Hid (ObIn (w.alloc (.cells #[.string o.k, .slice va o.l.length vc, .int .i64 o.r.s, .slice ua o.r.l.length uc, .string o.r.b, .int .i64 o.asked, .int .i64 o.got, .int .i64 o.ep] 28)) (.slice va o.l.length vc) (.slice ua o.r.l.length uc) o) := h.kept B0.out
  clear h
  unfold obV
  unfold rsV at j3
  go_enter Tryz.func10, Tryz.ntmps10
  go_wp2_with fail
  refine (j1 _).mono ?_
  rintro e w1 ⟨rfl, rfl⟩
  clear j1
  cases b1 with
  | false =>
    have HR : Hid (false = R) := HB.out.symm
    go_wp2
    go_ret
    exact ⟨ret_bool HR.out, B0.out⟩
  | true =>
    go_wp2_with fail
    refine (j2 _ I0.out.1).mono ?_
    rintro e w2 ⟨rfl, hb2⟩
    have Q2 : Hid (ObB w2 w.heap.size o (.slice va o.l.length vc) (.slice ua o.r.l.length uc)) := Q0.out.next hb2
    have B2 : Hid (Below w.heap.size w w2) := past6 B0.out hb2
    have I2 : Hid (ObIn w2 (.slice va o.l.length vc) (.slice ua o.r.l.length uc) o) := I0.out.kept hb2
    clear hb2 Q0 B0 I0 j2
    cases b2 with
    | false =>
      have HR : Hid (false = R) := HB.out.symm
      go_wp2
      go_ret
      exact ⟨ret_bool HR.out, B2.out⟩
    | true =>
      have d2 := Q2.out.c2
      have d3 := Q2.out.c3
      have d4 := Q2.out.c4
      go_wp2_with fail
      refine (j3 _ I2.out.2.1).mono ?_
      rintro e w3 ⟨rfl, hb3⟩
      have Q3 : Hid (ObB w3 w.heap.size o (.slice va o.l.length vc) (.slice ua o.r.l.length uc)) := Q2.out.next hb3
      have B3 : Hid (Below w.heap.size w w3) := past6 B2.out hb3
      clear hb3 Q2 B2 I2 j3 d2 d3 d4
      have d5 := Q3.out.c5
      have d6 := Q3.out.c6
      have d7 := Q3.out.c7
      cases b3 with
      | false =>
        have HR : Hid (false = R) := HB.out.symm
        go_wp2
        go_ret
        exact ⟨ret_bool HR.out, B3.out⟩
      | true =>
        go_wp2_with fail
        refine (j4 _).mono ?_
        rintro e w4 ⟨rfl, rfl⟩
        clear j4
        cases b4 with
        | false =>
          have HR : Hid (false = R) := HB.out.symm
          go_wp2
          go_ret
          exact ⟨ret_bool HR.out, B3.out⟩
        | true =>
          go_wp2_with fail
          refine (j5 _).mono ?_
          rintro e w5 ⟨rfl, rfl⟩
          clear j5
          cases b5 with
          | false =>
            have HR : Hid (false = R) := HB.out.symm
            go_wp2
            go_ret
            exact ⟨ret_bool HR.out, B3.out⟩
          | true =>
            by_cases hag : o.asked ≤ o.got
            · have da : decide (o.asked ≤ o.got) = true := decide_eq_true hag
              have HR : Hid (b6 = R) := by show _ = _; rw [HB.out, da]; simp
              go_wp2_with (go_at_call 33; refine (j6 _).mono ?_; rintro e w6 ⟨rfl, rfl⟩)
              go_ret
              exact ⟨ret_bool HR.out, B3.out⟩
            · have da : decide (o.asked ≤ o.got) = false := decide_eq_false hag
              have HR : Hid (false = R) := by show _ = _; rw [HB.out, da]; simp
              go_wp2
              go_ret
              exact ⟨ret_bool HR.out, B3.out⟩
end Go.Proofs.YtemmgfnepdgpbaaGreatDoor
namespace Go.Proofs.YtemmgfnepdgpbaaGreatDoor
open Go.RowKit Go.Sort St
set_option linter.unusedVariables false
set_option linter.unusedSimpArgs false

theorem bytes_extG {a b : ByteArray} (h : a.data.toList = b.data.toList) : a = b := ByteArray.ext (Array.toList_inj.1 h)
/-- An object that came in, in a box of its own. -/
structure Og (w W : World) (o : Ob) (v u : Value) : Prop where
  low : Below w.heap.size w W
  ob : ObB W w.heap.size o v u
  inn : ObIn W v u o
theorem Og.kept {w W W' : World} {o : Ob} {v u : Value} (h : Og w W o v u) (hb : Below W.heap.size W W') : Og w W' o v u := ⟨h.low.trans (hb.mono h.low.size), h.ob.next hb, h.inn.kept hb⟩
theorem Og.new (w : World) (o : Ob) (v u : Value) (h : ObIn w v u o) : Og w (w.alloc (.cells #[.string o.k, v, .int .i64 o.r.s, u, .string o.r.b, .int .i64 o.asked, .int .i64 o.got, .int .i64 o.ep] 28)) o v u :=
  ⟨(Below.refl _ w).alloc (Nat.le_refl _) _, ObB.new w o v u 28, h.kept ((Below.refl _ w).alloc (Nat.le_refl _) _)⟩
theorem int_of {n : Int} (h0 : 0 ≤ n) (h1 : n ≤ 253402300799) (w : World) : Calls Tryz.prog 64 #[.int .i64 n] w fun e w' => e = .returned (.string (txtL (dd n))) ∧ Below w.heap.size w w' := by
  have := specIntZ n.toNat w (by omega)
  rw [show ((n.toNat : Nat) : Int) = n from by omega] at this
  exact this
theorem txt_sizG (l : List UInt8) : (txtL l).size = l.length := by show l.toArray.size = _; simp
theorem txt_lstG (l : List UInt8) : (txtL l).data.toList = l := by unfold txtL; simp
set_option maxRecDepth 100000 in
set_option maxHeartbeats 8000000 in
theorem specSh16 (o : Ob) (v u : Value) (w : World) (h : ObIn w v u o) (hok : obB o = true) :
    Calls Tryz.prog 28 #[obV o v u] w fun e w' => e = .returned (.string (txtL (shoL o))) ∧ Below w.heap.size w w' := by
  have hk := obOk hok
  have hfl := (fldsOk_parts hk.fl).1
  have hrl := (fldsOk_parts hk.rl).1
  have hst := hk.st
  have hbd := hk.bd
  have hep := hk.ep
  have iA := fun W => int_of hk.asked.1 hk.asked.2 W
  have iG := fun W => int_of hk.got.1 hk.got.2 W
  have iE := fun W => int_of hep.1 (by omega) W
  have i1 := fun W => int_of (n := (o.l.length : Int)) (by omega) (by omega) W
  have i2 := fun W => int_of (n := o.r.s) (by omega) (by omega) W
  have i3 := fun W => int_of (n := (o.r.l.length : Int)) (by omega) (by omega) W
  have i4 := fun W => int_of (n := (o.r.b.size : Int)) (by omega) (by omega) W
  have f1 := fun W (hW : Fits W v o.l) => specShowL v o.l W hW.1 hk.fl
  have f2 := fun W (hW : Fits W u o.r.l) => specShowL u o.r.l W hW.1 hk.rl
  have zA : (txtL (dd o.asked)).size ≤ 12 := by rw [txt_sizG]; exact dec_small15 hk.asked.2
  have zG : (txtL (dd o.got)).size ≤ 12 := by rw [txt_sizG]; exact dec_small15 hk.got.2
  have zE : (txtL (dd o.ep)).size ≤ 12 := by rw [txt_sizG]; exact dec_small15 (by omega)
  have z1 : (txtL (dd (o.l.length : Int))).size ≤ 12 := by rw [txt_sizG]; exact dec_small15 (by omega)
  have z2 : (txtL (dd o.r.s)).size ≤ 12 := by rw [txt_sizG]; exact dec_small15 (by omega)
  have z3 : (txtL (dd (o.r.l.length : Int))).size ≤ 12 := by rw [txt_sizG]; exact dec_small15 (by omega)
  have z4 : (txtL (dd (o.r.b.size : Int))).size ≤ 12 := by rw [txt_sizG]; exact dec_small15 (by omega)
  have zf1 : (⟨(showL o.l).toArray⟩ : ByteArray).size ≤ 14040 := by show (txtL _).size ≤ _; rw [txt_sizG]; exact showL_len hk.fl
  have zf2 : (⟨(showL o.r.l).toArray⟩ : ByteArray).size ≤ 14040 := by show (txtL _).size ≤ _; rw [txt_sizG]; exact showL_len hk.rl
  have zK := hk.ksz
  have HT : Hid (∀ K A G E N1 N2 N3 N4 F1 F2 B S1 S2 : ByteArray, K = o.k → A = txtL (dd o.asked) → G = txtL (dd o.got) → E = txtL (dd o.ep) → N1 = txtL (dd (o.l.length : Int)) → N2 = txtL (dd o.r.s) → N3 = txtL (dd (o.r.l.length : Int)) → N4 = txtL (dd (o.r.b.size : Int)) → F1 = ⟨(showL o.l).toArray⟩ → F2 = ⟨(showL o.r.l).toArray⟩ → B = o.r.b →
      S1 = (((((((K ++ (⟨#[10]⟩ : ByteArray)) ++ A) ++ (⟨#[32]⟩ : ByteArray)) ++ G) ++ (⟨#[32]⟩ : ByteArray)) ++ E) ++ (⟨#[10]⟩ : ByteArray)) → S2 = ((((((((S1 ++ N1) ++ (⟨#[32]⟩ : ByteArray)) ++ N2) ++ (⟨#[32]⟩ : ByteArray)) ++ N3) ++ (⟨#[32]⟩ : ByteArray)) ++ N4) ++ (⟨#[10]⟩ : ByteArray)) → ((((S2 ++ F1) ++ F2) ++ B) ++ (⟨#[10]⟩ : ByteArray)) = txtL (shoL o)) := (show ∀ _, _ from by
    rintro K A G E N1 N2 N3 N4 F1 F2 B S1 S2 rfl rfl rfl rfl rfl rfl rfl rfl rfl rfl rfl rfl rfl
    apply bytes_extG
    rw [txt_lstG]
    unfold shoL hdL
    simp [txtL])
  obtain ⟨va, vc, rfl⟩ := h.1.form
  obtain ⟨ua, uc, rfl⟩ := h.2.1.1.form
  have P0 : Hid (Og w (w.alloc (.cells #[.string o.k, .slice va o.l.length vc, .int .i64 o.r.s, .slice ua o.r.l.length uc, .string o.r.b, .int .i64 o.asked, .int .i64 o.got, .int .i64 o.ep] 28)) o (.slice va o.l.length vc) (.slice ua o.r.l.length uc)) := (show Og w _ o _ _ from Og.new w o _ _ h)
  replace HT := HT.out o.k _ _ _ _ _ _ _ _ _ o.r.b _ _ rfl rfl rfl rfl rfl rfl rfl rfl rfl rfl rfl rfl rfl
  have HT2 : Hid (_ = txtL (shoL o)) := HT
  clear HT h hk hok hep
  generalize txtL (shoL o) = R at HT2 ⊢
  generalize txtL (dd o.asked) = A at iA zA HT2
  generalize txtL (dd o.got) = G at iG zG HT2
  generalize txtL (dd o.ep) = E at iE zE HT2
  generalize txtL (dd (o.l.length : Int)) = N1 at i1 z1 HT2
  generalize txtL (dd o.r.s) = N2 at i2 z2 HT2
  generalize txtL (dd (o.r.l.length : Int)) = N3 at i3 z3 HT2
  generalize txtL (dd (o.r.b.size : Int)) = N4 at i4 z4 HT2
  generalize (⟨(showL o.l).toArray⟩ : ByteArray) = F1 at f1 zf1 HT2
  generalize (⟨(showL o.r.l).toArray⟩ : ByteArray) = F2 at f2 zf2 HT2
  unfold obV
  go_enter Tryz.func28, Tryz.ntmps28
  go_wp2_with fail
  generalize w.alloc (.cells #[.string o.k, .slice va o.l.length vc, .int .i64 o.r.s, .slice ua o.r.l.length uc, .string o.r.b, .int .i64 o.asked, .int .i64 o.got, .int .i64 o.ep] 28) = wA at P0 ⊢
  have HT2K : Hid (∀ K, K = o.k → K.size ≤ 500) := (show ∀ _, _ from fun K h => by rw [h]; exact zK)
  have y0 : (o.k ++ (⟨#[10]⟩ : ByteArray)).size = o.k.size + 1 := by rw [ByteArray.size_append]; rfl
  have y1 : ((o.k ++ (⟨#[10]⟩ : ByteArray)) ++ A).size = o.k.size + 1 + A.size := by rw [ByteArray.size_append, y0]
  have y2 : (((o.k ++ (⟨#[10]⟩ : ByteArray)) ++ A) ++ (⟨#[32]⟩ : ByteArray)).size = o.k.size + 1 + A.size + 1 := by rw [ByteArray.size_append, y1]; rfl
  have y3 : ((((o.k ++ (⟨#[10]⟩ : ByteArray)) ++ A) ++ (⟨#[32]⟩ : ByteArray)) ++ G).size = o.k.size + 1 + A.size + 1 + G.size := by rw [ByteArray.size_append, y2]
  have y4 : (((((o.k ++ (⟨#[10]⟩ : ByteArray)) ++ A) ++ (⟨#[32]⟩ : ByteArray)) ++ G) ++ (⟨#[32]⟩ : ByteArray)).size = o.k.size + 1 + A.size + 1 + G.size + 1 := by rw [ByteArray.size_append, y3]; rfl
  have y5 : ((((((o.k ++ (⟨#[10]⟩ : ByteArray)) ++ A) ++ (⟨#[32]⟩ : ByteArray)) ++ G) ++ (⟨#[32]⟩ : ByteArray)) ++ E).size = o.k.size + 1 + A.size + 1 + G.size + 1 + E.size := by rw [ByteArray.size_append, y4]
  have y6 : (((((((o.k ++ (⟨#[10]⟩ : ByteArray)) ++ A) ++ (⟨#[32]⟩ : ByteArray)) ++ G) ++ (⟨#[32]⟩ : ByteArray)) ++ E) ++ (⟨#[10]⟩ : ByteArray)).size = o.k.size + 1 + A.size + 1 + G.size + 1 + E.size + 1 := by rw [ByteArray.size_append, y5]; rfl
  have k0 := cell_regrown P0.out.ob.c0
  have k5 := cell_regrown P0.out.ob.c5
  have k6 := cell_regrown P0.out.ob.c6
  have k7 := cell_regrown P0.out.ob.c7
  have jA : ∀ d os, Calls Tryz.prog 64 #[.int .i64 o.asked] (grow (redrawn wA d) os) fun e w'' => e = .returned (.string A) ∧ ∃ p : Regrown, w'' = grow (redrawn wA p.d) p.os := fun d os => Calls.regrown_of (iA _)
  have jG : ∀ d os, Calls Tryz.prog 64 #[.int .i64 o.got] (grow (redrawn wA d) os) fun e w'' => e = .returned (.string G) ∧ ∃ p : Regrown, w'' = grow (redrawn wA p.d) p.os := fun d os => Calls.regrown_of (iG _)
  have jE : ∀ d os, Calls Tryz.prog 64 #[.int .i64 o.ep] (grow (redrawn wA d) os) fun e w'' => e = .returned (.string E) ∧ ∃ p : Regrown, w'' = grow (redrawn wA p.d) p.os := fun d os => Calls.regrown_of (iE _)
  clear iA iG iE
  refine wp_region_quiet_below (by kernel_rfl) (by kernel_rfl) ?_
  repeat (go_big_quiet_step (first | (with_reducible exact jA _ _) | (with_reducible exact jG _ _) | (with_reducible exact jE _ _)))
  refine wpQuiet_nil ?_
  intro _ hw'
  obtain ⟨⟨dq, osq⟩, hw''⟩ := hw'
  subst hw''
  have P1 : Hid (Og w (grow (redrawn wA dq) osq) o (.slice va o.l.length vc) (.slice ua o.r.l.length uc)) := (show Og w _ o _ _ from P0.out.kept (below_regrown wA dq osq))
  clear P0 k0 k5 k6 k7 jA jG jE
  generalize grow (redrawn wA dq) osq = wB at P1 ⊢
  have hS1 : (((((((o.k ++ (⟨#[10]⟩ : ByteArray)) ++ A) ++ (⟨#[32]⟩ : ByteArray)) ++ G) ++ (⟨#[32]⟩ : ByteArray)) ++ E) ++ (⟨#[10]⟩ : ByteArray)).size ≤ 600 := by omega
  generalize (((((((o.k ++ (⟨#[10]⟩ : ByteArray)) ++ A) ++ (⟨#[32]⟩ : ByteArray)) ++ G) ++ (⟨#[32]⟩ : ByteArray)) ++ E) ++ (⟨#[10]⟩ : ByteArray)) = S1 at HT2 hS1 ⊢
  clear y0 y1 y2 y3 y4 y5 y6
  go_wp2_with fail
  have y0 : (S1 ++ N1).size = S1.size + N1.size := by rw [ByteArray.size_append]
  have y1 : ((S1 ++ N1) ++ (⟨#[32]⟩ : ByteArray)).size = S1.size + N1.size + 1 := by rw [ByteArray.size_append, y0]; rfl
  have y2 : (((S1 ++ N1) ++ (⟨#[32]⟩ : ByteArray)) ++ N2).size = S1.size + N1.size + 1 + N2.size := by rw [ByteArray.size_append, y1]
  have y3 : ((((S1 ++ N1) ++ (⟨#[32]⟩ : ByteArray)) ++ N2) ++ (⟨#[32]⟩ : ByteArray)).size = S1.size + N1.size + 1 + N2.size + 1 := by rw [ByteArray.size_append, y2]; rfl
  have y4 : (((((S1 ++ N1) ++ (⟨#[32]⟩ : ByteArray)) ++ N2) ++ (⟨#[32]⟩ : ByteArray)) ++ N3).size = S1.size + N1.size + 1 + N2.size + 1 + N3.size := by rw [ByteArray.size_append, y3]
  have y5 : ((((((S1 ++ N1) ++ (⟨#[32]⟩ : ByteArray)) ++ N2) ++ (⟨#[32]⟩ : ByteArray)) ++ N3) ++ (⟨#[32]⟩ : ByteArray)).size = S1.size + N1.size + 1 + N2.size + 1 + N3.size + 1 := by rw [ByteArray.size_append, y4]; rfl
  have y6 : (((((((S1 ++ N1) ++ (⟨#[32]⟩ : ByteArray)) ++ N2) ++ (⟨#[32]⟩ : ByteArray)) ++ N3) ++ (⟨#[32]⟩ : ByteArray)) ++ N4).size = S1.size + N1.size + 1 + N2.size + 1 + N3.size + 1 + N4.size := by rw [ByteArray.size_append, y5]
  have y7 : ((((((((S1 ++ N1) ++ (⟨#[32]⟩ : ByteArray)) ++ N2) ++ (⟨#[32]⟩ : ByteArray)) ++ N3) ++ (⟨#[32]⟩ : ByteArray)) ++ N4) ++ (⟨#[10]⟩ : ByteArray)).size = S1.size + N1.size + 1 + N2.size + 1 + N3.size + 1 + N4.size + 1 := by rw [ByteArray.size_append, y6]; rfl
  have k1 := cell_regrown P1.out.ob.c1
  have k2 := cell_regrown P1.out.ob.c2
  have k3 := cell_regrown P1.out.ob.c3
  have k4 := cell_regrown P1.out.ob.c4
  have j1 : ∀ d os, Calls Tryz.prog 64 #[.int .i64 (o.l.length : Int)] (grow (redrawn wB d) os) fun e w'' => e = .returned (.string N1) ∧ ∃ p : Regrown, w'' = grow (redrawn wB p.d) p.os := fun d os => Calls.regrown_of (i1 _)
  have j2 : ∀ d os, Calls Tryz.prog 64 #[.int .i64 o.r.s] (grow (redrawn wB d) os) fun e w'' => e = .returned (.string N2) ∧ ∃ p : Regrown, w'' = grow (redrawn wB p.d) p.os := fun d os => Calls.regrown_of (i2 _)
  have j3 : ∀ d os, Calls Tryz.prog 64 #[.int .i64 (o.r.l.length : Int)] (grow (redrawn wB d) os) fun e w'' => e = .returned (.string N3) ∧ ∃ p : Regrown, w'' = grow (redrawn wB p.d) p.os := fun d os => Calls.regrown_of (i3 _)
  have j4 : ∀ d os, Calls Tryz.prog 64 #[.int .i64 (o.r.b.size : Int)] (grow (redrawn wB d) os) fun e w'' => e = .returned (.string N4) ∧ ∃ p : Regrown, w'' = grow (redrawn wB p.d) p.os := fun d os => Calls.regrown_of (i4 _)
  clear i1 i2 i3 i4
  refine wp_region_quiet_below (by kernel_rfl) (by kernel_rfl) ?_
  repeat (go_big_quiet_step (first | (with_reducible exact j1 _ _) | (with_reducible exact j2 _ _) | (with_reducible exact j3 _ _) | (with_reducible exact j4 _ _)))
  refine wpQuiet_nil ?_
  intro _ hw'
  obtain ⟨⟨dq2, osq2⟩, hw''⟩ := hw'
  subst hw''
  have P2 : Hid (Og w (grow (redrawn wB dq2) osq2) o (.slice va o.l.length vc) (.slice ua o.r.l.length uc)) := (show Og w _ o _ _ from P1.out.kept (below_regrown wB dq2 osq2))
  clear P1 k1 k2 k3 k4 j1 j2 j3 j4
  generalize grow (redrawn wB dq2) osq2 = wC at P2 ⊢
  have hS2 : ((((((((S1 ++ N1) ++ (⟨#[32]⟩ : ByteArray)) ++ N2) ++ (⟨#[32]⟩ : ByteArray)) ++ N3) ++ (⟨#[32]⟩ : ByteArray)) ++ N4) ++ (⟨#[10]⟩ : ByteArray)).size ≤ 700 := by omega
  generalize ((((((((S1 ++ N1) ++ (⟨#[32]⟩ : ByteArray)) ++ N2) ++ (⟨#[32]⟩ : ByteArray)) ++ N3) ++ (⟨#[32]⟩ : ByteArray)) ++ N4) ++ (⟨#[10]⟩ : ByteArray)) = S2 at HT2 hS2 ⊢
  clear y0 y1 y2 y3 y4 y5 y6 y7
  go_wp2_with fail
  have y0 : (S2 ++ F1).size = S2.size + F1.size := by rw [ByteArray.size_append]
  have y1 : ((S2 ++ F1) ++ F2).size = S2.size + F1.size + F2.size := by rw [ByteArray.size_append, y0]
  have y2 : (((S2 ++ F1) ++ F2) ++ o.r.b).size = S2.size + F1.size + F2.size + o.r.b.size := by rw [ByteArray.size_append, y1]
  have y3 : ((((S2 ++ F1) ++ F2) ++ o.r.b) ++ (⟨#[10]⟩ : ByteArray)).size = S2.size + F1.size + F2.size + o.r.b.size + 1 := by rw [ByteArray.size_append, y2]; rfl
  have k1 := cell_regrown P2.out.ob.c1
  have k3 := cell_regrown P2.out.ob.c3
  have k4 := cell_regrown P2.out.ob.c4
  have g1 : ∀ d os, Calls Tryz.prog 65 #[.slice va o.l.length vc] (grow (redrawn wC d) os) fun e w'' => e = .returned (.string F1) ∧ ∃ p : Regrown, w'' = grow (redrawn wC p.d) p.os := fun d os => Calls.regrown_of (f1 _ (P2.out.inn.1.kept (below_regrown wC d os)))
  have g2 : ∀ d os, Calls Tryz.prog 65 #[.slice ua o.r.l.length uc] (grow (redrawn wC d) os) fun e w'' => e = .returned (.string F2) ∧ ∃ p : Regrown, w'' = grow (redrawn wC p.d) p.os := fun d os => Calls.regrown_of (f2 _ (P2.out.inn.2.1.1.kept (below_regrown wC d os)))
  clear f1 f2
  refine wp_region_quiet_below (by kernel_rfl) (by kernel_rfl) ?_
  repeat (go_big_quiet_step (first | (with_reducible exact g1 _ _) | (with_reducible exact g2 _ _)))
  refine wpQuiet_nil ?_
  intro _ hw'
  obtain ⟨⟨dq3, osq3⟩, hw''⟩ := hw'
  subst hw''
  have B3 : Hid (Below w.heap.size w (grow (redrawn wC dq3) osq3)) := (show Below _ _ _ from past6 P2.out.low (below_regrown wC dq3 osq3))
  clear P2 k1 k3 k4 g1 g2
  go_wp2
  go_ret
  exact ⟨by rw [← HT2.out]; rfl, B3.out⟩
set_option maxHeartbeats 2000000 in
theorem specShO (o : Ob) (v u : Value) (w : World) (h : ObIn w v u o) :
    Calls Tryz.prog 9 #[obV o v u] w fun e w' => e = .returned (.string (shwO o)) ∧ Below w.heap.size w w' := by
  have j1 := fun W hW => specObOk o v u W hW
  have j2 := fun (hok : obB o = true) W hW => specSh16 o v u W hW hok
  have HR : Hid (shwO o = if obB o = true then txtL (shoL o) else ⟨#[]⟩) := rfl
  obtain ⟨va, vc, rfl⟩ := h.1.form
  obtain ⟨ua, uc, rfl⟩ := h.2.1.1.form
  have P0 : Hid (Og w (w.alloc (.cells #[.string o.k, .slice va o.l.length vc, .int .i64 o.r.s, .slice ua o.r.l.length uc, .string o.r.b, .int .i64 o.asked, .int .i64 o.got, .int .i64 o.ep] 28)) o (.slice va o.l.length vc) (.slice ua o.r.l.length uc)) := (show Og w _ o _ _ from Og.new w o _ _ h)
  generalize shwO o = R at HR ⊢
  generalize txtL (shoL o) = T at HR j2
  clear h
  unfold obV at *
  go_enter Tryz.func9, Tryz.ntmps9
  generalize hwA : w.alloc (.cells #[.string o.k, .slice va o.l.length vc, .int .i64 o.r.s, .slice ua o.r.l.length uc, .string o.r.b, .int .i64 o.asked, .int .i64 o.got, .int .i64 o.ep] 28) = wA at P0
  obtain ⟨q0, q1, q2, q3, q4, q5, q6, q7, qf, qh⟩ := P0.out.ob
  go_wp2_with fail
  refine (j1 _ P0.out.inn).mono ?_
  rintro e w1 ⟨rfl, hb1⟩
  have P1 : Hid (Og w w1 o (.slice va o.l.length vc) (.slice ua o.r.l.length uc)) := (show Og w _ o _ _ from P0.out.kept hb1)
  clear P0 hb1 q0 q1 q2 q3 q4 q5 q6 q7 qf qh hwA j1
  cases hB : obB o with
  | false =>
    have HE : Hid (R = ⟨#[]⟩) := by show _ = _; rw [HR.out, hB]; rfl
    clear HR j2 hB
    go_wp2
    go_ret
    exact ⟨by rw [HE.out]; rfl, P1.out.low⟩
  | true =>
    have HE : Hid (R = T) := by show _ = _; rw [HR.out, if_pos hB]
    have j2 := j2 hB
    obtain ⟨q0, q1, q2, q3, q4, q5, q6, q7, qf, qh⟩ := P1.out.ob
    clear HR hB
    go_wp2_with fail
    refine (j2 _ P1.out.inn).mono ?_
    rintro e w2 ⟨rfl, hb2⟩
    have B2 : Hid (Below w.heap.size w w2) := (show Below _ _ _ from past6 P1.out.low hb2)
    clear hb2 P1 q0 q1 q2 q3 q4 q5 q6 q7 qf qh
    go_wp2
    go_ret
    exact ⟨by rw [HE.out]; rfl, B2.out⟩
end Go.Proofs.YtemmgfnepdgpbaaGreatDoor
namespace Go.Proofs.YtemmgfnepdgpbaaGreatDoor
open Go.RowKit Go.Sort Go.ChangeShapes Go.WideShapes Go.ChangeAt Go.Joins Go.Deep
def RsGot (w : World) (u : Value) (r : Rs) : Prop := Fls w u r.l ∧ (∀ f ∈ r.l, f.1.size ≤ maxLen ∧ f.2.size ≤ maxLen) ∧ Solid u ∧ r.b.size ≤ maxLen
end Go.Proofs.YtemmgfnepdgpbaaGreatDoor
namespace Go.Proofs.YtemmgfnepdgpbaaGreatDoor
open Go.RowKit Go.Sort Go.ChangeShapes Go.WideShapes Go.ChangeAt Go.Joins Go.Deep
set_option linter.unusedVariables false

/-- What a law is told of an object that came in. -/
def ObGot (w : World) (v u : Value) (o : Ob) : Prop := Fls w v o.l ∧ (∀ f ∈ o.l, f.1.size ≤ maxLen ∧ f.2.size ≤ maxLen) ∧ Solid v ∧ RsGot w u o.r ∧ o.k.size ≤ maxLen
end Go.Proofs.YtemmgfnepdgpbaaGreatDoor
