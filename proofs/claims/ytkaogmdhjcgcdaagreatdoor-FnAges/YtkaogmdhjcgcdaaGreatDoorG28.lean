/-
  Drawn control: whatever the code, some control.
  The specification's policy by its contracts: how long a response is fresh, how old an object is, whether it is fresh.
  The specification's policy by its contracts: how old an object is, whether it is fresh.
  The specification's policy by its contracts: whether an object is fresh, what is to be done.
  A slice of fields that came in, opened.
  Requests and responses that came in, opened; the laws' own helpers for them, by their contracts.
  Objects that came in, opened; how large they are, by the laws' own measure.
-/
import Derived.Test.YtkaogmdhjcgcdaaGreatDoorG23
import Derived.Test.YtkaogmdhjcgcdaaGreatDoorG27
import Derived.Deep.QuietTactic
import Derived.BigQuiet
import Derived.Lib.QuietBelow
import Derived.Test.YtkaogmdhjcgcdaaGreatDoorG04
import Derived.Deep.SlicePairs
import Derived.ChangeArms
import Derived.Lib.LaidU8
import Derived.Test.YtkaogmdhjcgcdaaGreatDoorG22
import Derived.ProofKit
import Derived.OpenShut
import Derived.ShutString
import Derived.Lib.SmallJoins
namespace Go.Proofs.YtkaogmdhjcgcdaaGreatDoor
open Go.RowKit Go.Sort
set_option linter.unusedVariables false
set_option linter.unusedSimpArgs false

theorem BlkE.bs {α : Type} {E : Enc α} {w w' : World} {b k : Nat} {x : α} (h : BlkE E w k x) (hb : Beside b w w') (hne : k ≠ b) : BlkE E w' k x := h.same (hb.2.2.2.2 k h.hi hne) hb.2.2.2.1
theorem Cur.more9 {w : World} {b : Nat} {sa : Option Addr} {sl sc : Nat} (h : Cur w b sa sl sc) (o : Obj) : Cur (w.alloc o) b sa sl sc := h.kept ((Below.refl _ w).alloc (Nat.le_refl _) _) h.2.2.1
theorem Beside.more9 {g : Nat} {a w : World} (h : Beside g a w) (o : Obj) : Beside g a (w.alloc o) := h.below ((Below.refl _ w).alloc (Nat.le_refl _) _)
theorem specMax9 (a b : Int) (w : World) : Calls Tryz.prog 52 #[.int .i64 a, .int .i64 b] w fun e w' => e = .returned (.int .i64 (maxI a b)) ∧ w = w' := by
  unfold maxI
  by_cases h : b < a
  · rw [if_pos h]
    go_enter Tryz.func52, Tryz.ntmps52
    go_wp2
    go_ret
    exact ⟨rfl, rfl⟩
  · rw [if_neg h]
    go_enter Tryz.func52, Tryz.ntmps52
    go_wp2
    go_ret
    exact ⟨rfl, rfl⟩
end Go.Proofs.YtkaogmdhjcgcdaaGreatDoor
namespace Go.Proofs.YtkaogmdhjcgcdaaGreatDoor
open Go.RowKit Go.Sort
set_option linter.unusedVariables false
set_option linter.unusedSimpArgs false

theorem MomIs.bd {t : ByteArray} {n : Int} (h : MomIs t n) : -1 ≤ n ∧ n ≤ 253402300799 := by
  rcases h with ⟨y, m, d, hh, i, s, h1, h2, rfl⟩ | ⟨h1, rfl⟩
  · have h3 := Dd.day_bd (Dd.dayOk_of (decide_eq_true h1 : Dd.okB y m d hh i s = true))
    have h4 : (0 ≤ hh ∧ hh ≤ 23) ∧ (0 ≤ i ∧ i ≤ 59) ∧ (0 ≤ s ∧ s ≤ 59) := h1.2.2.2
    unfold Dd.momN
    omega
  · omega
theorem FldMom.bd {l : List Fl} {name : ByteArray} {n : Int} (h : FldMom l name n) : -1 ≤ n ∧ n ≤ 253402300799 := MomIs.bd h
theorem ret_i10 {a b : Int} (h : a = b) : Ending.returned (.int .i64 a) = .returned (.int .i64 b) := by rw [h]
theorem numL_nn (l : List UInt8) (h : allB (digN 10) l = true) : 0 ≤ numL 10 l := by
  have k : ∀ (l : List UInt8) (acc : Int), 0 ≤ acc → allB (digN 10) l = true → 0 ≤ l.foldl (fun n c => n * 10 + digV (c.toNat : Int)) acc := by
    intro l
    induction l with
    | nil => intro acc h0 _; exact h0
    | cons c l ih =>
      intro acc h0 ha
      unfold allB at ha
      rw [List.all_cons, Bool.and_eq_true] at ha
      rw [List.foldl_cons]
      refine ih _ ?_ ha.2
      have hd := of_decide_eq_true ha.1
      omega
  exact k l 0 (Int.le_refl _) h
theorem ctlOf_ok (l : List Fl) : ctB (ctlOf l) = true := rdL_ok (fun t => by
  unfold numV
  split
  · rename_i h
    unfold numOk at h
    rw [Bool.and_eq_true] at h
    exact numL_nn _ h.2
  · exact Int.le_refl _) _
set_option maxHeartbeats 2000000 in
theorem specLife (r : Rs) (u : Value) (e d : Int) (w : World) (h : RsIn w u r) (he : FldMom r.l nEX e) (hd : FldMom r.l nDA d) :
    Calls Tryz.prog 18 #[rsV r u] w fun en w' => en = .returned (.int .i64 (lifeV r e d)) ∧ Below w.heap.size w w' := by
  have j1 := fun W hW => specRsOk r u W hW
  have j2 := fun W hW => specCtl u r.l W hW
  have j3 := fun W hW => specDateO u r.l nEX e W hW he (by decide)
  have j4 := fun W hW => specDateO u r.l nDA d W hW hd (by decide)
  have he2 := he.bd
  have hd2 := hd.bd
  have HL : Hid (lifeV r e d = if rsOk r = true then lifeF (ctlOf r.l) e d else -1) := rfl
  generalize lifeV r e d = L at HL ⊢
  generalize rsOk r = b1 at HL j1
  generalize ctlOf r.l = C at HL j2
  clear he hd
  obtain ⟨ua, uc, rfl⟩ := h.1.form
  have Q0 : Hid (RsB (w.alloc (.cells #[.int .i64 r.s, .slice ua r.l.length uc, .string r.b] 26)) w.heap.size r (.slice ua r.l.length uc)) := RsB.new w r _ _
  have B0 : Hid (Below w.heap.size w (w.alloc (.cells #[.int .i64 r.s, .slice ua r.l.length uc, .string r.b] 26))) := (Below.refl _ w).alloc (Nat.le_refl _) _
  have I0 : Hid (RsIn (w.alloc (.cells #[.int .i64 r.s, .slice ua r.l.length uc, .string r.b] 26)) (.slice ua r.l.length uc) r) := h.kept B0.out
  clear h
  unfold rsV at j1 ⊢
  unfold nEX at j3
  unfold nDA at j4
  go_enter Tryz.func18, Tryz.ntmps18
  go_wp2_with fail
  refine (j1 _ I0.out).mono ?_
  rintro en w1 ⟨rfl, hb1⟩
  have Q1 : Hid (RsB w1 w.heap.size r (.slice ua r.l.length uc)) := Q0.out.next hb1
  have B1 : Hid (Below w.heap.size w w1) := past6 B0.out hb1
  have I1 : Hid (RsIn w1 (.slice ua r.l.length uc) r) := I0.out.kept hb1
  clear hb1 Q0 B0 I0 j1
  cases b1 with
  | false =>
    have HR : Hid (-1 = L) := HL.out.symm
    go_wp2
    go_ret
    exact ⟨ret_i10 HR.out, B1.out⟩
  | true =>
    have HR : Hid (lifeF C e d = L) := HL.out.symm
    have q1 := Q1.out.c1
    go_wp2_with fail
    refine (j2 _ I1.out.1).mono ?_
    rintro en w2 ⟨rfl, hb2⟩
    obtain ⟨xa, xs, xt, xns, xnc, xpr, xmu⟩ := C
    have B2 : Hid (Below w.heap.size w (w2.alloc (.cells #[.int .i64 xa, .int .i64 xs, .int .i64 xt, .bool xns, .bool xnc, .bool xpr, .bool xmu] 50))) := (past6 B1.out hb2).alloc (past6 B1.out hb2).size _
    have Q2 : Hid (RsB (w2.alloc (.cells #[.int .i64 xa, .int .i64 xs, .int .i64 xt, .bool xns, .bool xnc, .bool xpr, .bool xmu] 50)) w.heap.size r (.slice ua r.l.length uc)) := (Q1.out.next hb2).alloc _
    have I2 : Hid (RsIn (w2.alloc (.cells #[.int .i64 xa, .int .i64 xs, .int .i64 xt, .bool xns, .bool xnc, .bool xpr, .bool xmu] 50)) (.slice ua r.l.length uc) r) := (I1.out.kept hb2).kept ((Below.refl _ w2).alloc (Nat.le_refl _) _)
    have C2 : Hid (CtB (w2.alloc (.cells #[.int .i64 xa, .int .i64 xs, .int .i64 xt, .bool xns, .bool xnc, .bool xpr, .bool xmu] 50)) w2.heap.size ⟨xa, xs, xt, xns, xnc, xpr, xmu⟩) := CtB.born w2 ⟨xa, xs, xt, xns, xnc, xpr, xmu⟩ 50
    clear hb2 Q1 B1 I1 j2 q1
    have q2 := Q2.out.c1
    unfold ctV
    go_wp2_with fail
    refine (j3 _ I2.out.1).mono ?_
    rintro en w3 ⟨rfl, hb3⟩
    have B3 : Hid (Below w.heap.size w w3) := past6 B2.out hb3
    have Q3 : Hid (RsB w3 w.heap.size r (.slice ua r.l.length uc)) := Q2.out.next hb3
    have I3 : Hid (RsIn w3 (.slice ua r.l.length uc) r) := I2.out.kept hb3
    have C3 : Hid (CtB w3 w2.heap.size ⟨xa, xs, xt, xns, xnc, xpr, xmu⟩) := C2.out.kept hb3
    clear hb3 Q2 B2 I2 C2 j3 q2
    have q3 := Q3.out.c1
    go_wp2_with fail
    refine (j4 _ I3.out.1).mono ?_
    rintro en w4 ⟨rfl, hb4⟩
    have B4 : Hid (Below w.heap.size w w4) := past6 B3.out hb4
    have C4 : Hid (CtB w4 w2.heap.size ⟨xa, xs, xt, xns, xnc, xpr, xmu⟩) := C3.out.kept hb4
    clear hb4 Q3 B3 I3 C3 j4 q3
    have c0 := C4.out.all.1
    have c1 := C4.out.all.2.1
    simp only at c0 c1
    have HF : Hid (lifeF ⟨xa, xs, xt, xns, xnc, xpr, xmu⟩ e d = if 0 ≤ xs then xs else if 0 ≤ xa then xa else if 0 ≤ e ∧ 0 ≤ d then maxI 0 (e - d) else 0) := rfl
    rw [HF.out] at HR
    by_cases h1 : 0 ≤ xs
    · rw [if_pos h1] at HR
      go_wp2
      go_ret
      exact ⟨ret_i10 HR.out, B4.out⟩
    · rw [if_neg h1] at HR
      by_cases h2 : 0 ≤ xa
      · rw [if_pos h2] at HR
        go_wp2
        go_ret
        exact ⟨ret_i10 HR.out, B4.out⟩
      · rw [if_neg h2] at HR
        by_cases h3 : 0 ≤ e
        · by_cases h4 : 0 ≤ d
          · rw [if_pos ⟨h3, h4⟩] at HR
            have hm := fun W => specMax9 0 (e - d) W
            generalize maxI 0 (e - d) = mx at hm HR
            have ew : IntKind.i64.wrap (e - d) = e - d := by rw [IntKind.wrap_i64]; omega
            go_wp2_with (go_at_call 52; refine (hm _).mono ?_; rintro en w5 ⟨rfl, rfl⟩)
            go_ret
            exact ⟨ret_i10 HR.out, B4.out⟩
          · rw [if_neg (fun h => h4 h.2)] at HR
            go_wp2
            go_ret
            exact ⟨ret_i10 HR.out, B4.out⟩
        · rw [if_neg (fun h => h3 h.1)] at HR
          go_wp2
          go_ret
          exact ⟨ret_i10 HR.out, B4.out⟩
end Go.Proofs.YtkaogmdhjcgcdaaGreatDoor
namespace Go.Proofs.YtkaogmdhjcgcdaaGreatDoor
open Go.RowKit Go.Sort
set_option linter.unusedVariables false
set_option linter.unusedSimpArgs false

theorem numV_lim (t : ByteArray) : 0 ≤ numV 10 15 t ∧ numV 10 15 t < 1000000000000000 := by
  have nb : ∀ (l : List UInt8) (acc : Int) (m : Nat), 0 ≤ acc → acc < 10 ^ m → allB (digN 10) l = true → 0 ≤ l.foldl (fun n c => n * 10 + digV (c.toNat : Int)) acc ∧ l.foldl (fun n c => n * 10 + digV (c.toNat : Int)) acc < 10 ^ (m + l.length) := by
    intro l
    induction l with
    | nil => intro acc m h1 h2 _; exact ⟨h1, h2⟩
    | cons c l ih =>
      intro acc m h1 h2 ha
      have h3 : digN 10 (c.toNat : Int) = true ∧ allB (digN 10) l = true := by unfold allB at ha ⊢; rw [List.all_cons, Bool.and_eq_true] at ha; exact ha
      have h4 := of_decide_eq_true h3.1
      have := ih (acc * 10 + digV (c.toNat : Int)) (m + 1) (by omega) (by rw [Int.pow_succ]; omega) h3.2
      rw [List.length_cons, show m + (l.length + 1) = m + 1 + l.length by omega]
      exact this
  unfold numV
  split
  · rename_i h
    unfold numOk at h
    rw [Bool.and_eq_true] at h
    have h1 := of_decide_eq_true h.1
    have h2 := nb t.data.toList 0 0 (Int.le_refl _) (by decide) h.2
    have hl : t.data.toList.length = t.size := by simp
    rw [hl, Nat.zero_add] at h2
    refine ⟨h2.1, Int.lt_of_lt_of_le h2.2 ?_⟩
    have : (10 : Int) ^ t.size ≤ 10 ^ 15 := by
      have h3 : (10 : Nat) ^ t.size ≤ 10 ^ 15 := Nat.pow_le_pow_right (by decide) h1.2
      exact_mod_cast h3
    exact this
  · exact ⟨Int.le_refl _, by decide⟩
theorem low_dn {B n : Nat} {w w1 : World} (h : Below B w w1) : Below B w (w1.drewN n) := ⟨h.os, h.tape, h.output, h.size, h.block⟩
def apV (o : Ob) (d : Int) : Int := if 0 ≤ d then maxI 0 (o.got - d) else 0
theorem ageF_is (o : Ob) (told d now : Int) : ageF o told d now = minI 1000000000 (maxI (apV o d) (told + o.got - o.asked) + now - o.got) := rfl
theorem obB_parts {o : Ob} (h : obB o = true) : (0 ≤ o.asked ∧ o.asked ≤ 253402300799) ∧ (0 ≤ o.got ∧ o.got ≤ 253402300799) ∧ o.asked ≤ o.got := by
  unfold obB at h
  simp only [Bool.and_eq_true, decide_eq_true_eq] at h
  exact ⟨momB_iff.1 h.2.2.2.1, momB_iff.1 h.2.2.2.2.1, h.2.2.2.2.2.1⟩
set_option maxHeartbeats 4000000 in
theorem specAge (o : Ob) (v u : Value) (now d : Int) (w : World) (h : ObIn w v u o) (hd : FldMom o.r.l nDA d) (hn0 : -9223372036854775808 ≤ now) (hn1 : now ≤ 9223372036854775807) :
    Calls Tryz.prog 14 #[obV o v u, .int .i64 now] w fun en w' => en = .returned (.int .i64 (ageV o now d)) ∧ Below w.heap.size w w' := by
  have j1 := fun W hW => specObOk o v u W hW
  have j2 := fun W => specMomB now W
  have hgz := getF_max nAG h.2.1.1.2.1 h.2.1.1.2.2.1
  have j3 := fun W (hW : Fits W u o.r.l) => specGetN u o.r.l nAG W hW.1 hW.2.1 hW.2.2.1 (by decide)
  have j4 := fun W => specDig (getF o.r.l nAG).1 W (by unfold maxLen; omega)
  have j5 := fun W hW => specDateO u o.r.l nDA d W hW hd (by decide)
  have hd2 := hd.bd
  have htl := numV_lim (getF o.r.l nAG).1
  have HA : Hid (ageV o now d = if obB o = true ∧ momB now = true ∧ o.got ≤ now then ageF o (numV 10 15 (getF o.r.l nAG).1) d now else -1) := rfl
  have HO : Hid (obB o = true → (0 ≤ o.asked ∧ o.asked ≤ 253402300799) ∧ (0 ≤ o.got ∧ o.got ≤ 253402300799) ∧ o.asked ≤ o.got) := obB_parts
  have HM : Hid (momB now = true → 0 ≤ now ∧ now ≤ 253402300799) := momB_iff.1
  generalize ageV o now d = A at HA ⊢
  generalize obB o = b1 at HA j1 HO
  generalize momB now = b2 at HA j2 HM
  unfold getE at j3
  unfold numE at j4
  generalize numOk 10 15 (getF o.r.l nAG).1 = tb at j4
  generalize numV 10 15 (getF o.r.l nAG).1 = told at HA j4 htl
  generalize getF o.r.l nAG = g at j3 j4 hgz
  obtain ⟨gt, gb⟩ := g
  simp only at j3 j4 hgz
  clear hd
  obtain ⟨va, vc, rfl⟩ := h.1.form
  obtain ⟨ua, uc, rfl⟩ := h.2.1.1.form
  have Q0 : Hid (ObB (w.alloc (.cells #[.string o.k, .slice va o.l.length vc, .int .i64 o.r.s, .slice ua o.r.l.length uc, .string o.r.b, .int .i64 o.asked, .int .i64 o.got, .int .i64 o.ep] 28)) w.heap.size o (.slice va o.l.length vc) (.slice ua o.r.l.length uc)) := ObB.new w o _ _ _
  have B0 : Hid (Below w.heap.size w (w.alloc (.cells #[.string o.k, .slice va o.l.length vc, .int .i64 o.r.s, .slice ua o.r.l.length uc, .string o.r.b, .int .i64 o.asked, .int .i64 o.got, .int .i64 o.ep] 28))) := (Below.refl _ w).alloc (Nat.le_refl _) _
  have I0 : Hid (ObIn (w.alloc (.cells #[.string o.k, .slice va o.l.length vc, .int .i64 o.r.s, .slice ua o.r.l.length uc, .string o.r.b, .int .i64 o.asked, .int .i64 o.got, .int .i64 o.ep] 28)) (.slice va o.l.length vc) (.slice ua o.r.l.length uc) o) := h.kept B0.out
  clear h
  unfold obV at j1 ⊢
  unfold nAG at j3
  unfold nDA at j5
  go_enter Tryz.func14, Tryz.ntmps14
  go_wp2_with fail
  refine (j1 _ I0.out).mono ?_
  rintro en w1 ⟨rfl, hb1⟩
  have Q1 : Hid (ObB w1 w.heap.size o (.slice va o.l.length vc) (.slice ua o.r.l.length uc)) := Q0.out.next hb1
  have B1 : Hid (Below w.heap.size w w1) := past6 B0.out hb1
  have I1 : Hid (ObIn w1 (.slice va o.l.length vc) (.slice ua o.r.l.length uc) o) := I0.out.kept hb1
  clear hb1 Q0 B0 I0 j1
  cases b1 with
  | false =>
    have HR : Hid (-1 = A) := by show _ = _; rw [HA.out, if_neg (fun h => by cases h.1)]
    go_wp2
    go_ret
    exact ⟨ret_i10 HR.out, B1.out⟩
  | true =>
    obtain ⟨ha1, hg1, hag⟩ := HO.out rfl
    have q6 := Q1.out.c6
    go_wp2_with fail
    refine (j2 _).mono ?_
    rintro en w2 ⟨rfl, rfl⟩
    clear j2
    cases b2 with
    | false =>
      have HR : Hid (-1 = A) := by show _ = _; rw [HA.out, if_neg (fun h => by cases h.2.1)]
      go_wp2
      go_ret
      exact ⟨ret_i10 HR.out, B1.out⟩
    | true =>
      have hnow := HM.out rfl
      by_cases hgn : o.got ≤ now
      · have dgn : decide (now < o.got) = false := decide_eq_false (by omega)
        have HR : Hid (ageF o told d now = A) := by show _ = _; rw [HA.out, if_pos ⟨by first | rfl | trivial, by first | rfl | trivial, hgn⟩]
        rw [ageF_is] at HR
        have q3 := Q1.out.c3
        go_wp2_with fail
        refine (j3 _ I1.out.2.1.1).mono ?_
        rintro en w3 ⟨rfl, hb3⟩
        have Q3 : Hid (ObB w3 w.heap.size o (.slice va o.l.length vc) (.slice ua o.r.l.length uc)) := Q1.out.next hb3
        have B3 : Hid (Below w.heap.size w w3) := past6 B1.out hb3
        have I3 : Hid (ObIn w3 (.slice va o.l.length vc) (.slice ua o.r.l.length uc) o) := I1.out.kept hb3
        clear hb3 Q1 B1 I1 j3 q3 q6
        go_wp2_with fail
        refine (j4 _).mono ?_
        rintro en w4 ⟨rfl, hb4⟩
        have Q4 : Hid (ObB w4 w.heap.size o (.slice va o.l.length vc) (.slice ua o.r.l.length uc)) := Q3.out.next hb4
        have B4 : Hid (Below w.heap.size w w4) := past6 B3.out hb4
        have I4 : Hid (ObIn w4 (.slice va o.l.length vc) (.slice ua o.r.l.length uc) o) := I3.out.kept hb4
        clear hb4 Q3 B3 I3 j4
        have q3 := Q4.out.c3
        go_wp2_with fail
        refine (j5 _ I4.out.2.1.1).mono ?_
        rintro en w5 ⟨rfl, hb5⟩
        have Q5 : Hid (ObB w5 w.heap.size o (.slice va o.l.length vc) (.slice ua o.r.l.length uc)) := Q4.out.next hb5
        have B5 : Hid (Below w.heap.size w w5) := past6 B4.out hb5
        clear hb5 Q4 B4 I4 j5 q3
        have q5 := Q5.out.c5
        have q6 := Q5.out.c6
        have HAP : Hid (apV o d = if 0 ≤ d then maxI 0 (o.got - d) else 0) := rfl
        have hap : 0 ≤ apV o d ∧ apV o d ≤ 253402300799 := by unfold apV maxI; repeat' split; all_goals omega
        have hm2 := fun W => specMax9 (apV o d) (told + o.got - o.asked) W
        have hmb : 0 ≤ maxI (apV o d) (told + o.got - o.asked) ∧ maxI (apV o d) (told + o.got - o.asked) ≤ 2000000000000000 := by unfold maxI; split <;> omega
        have hn2 := fun W => specMin9 1000000000 (maxI (apV o d) (told + o.got - o.asked) + now - o.got) W
        have e1 : IntKind.i64.wrap (told + o.got) = told + o.got := by rw [IntKind.wrap_i64]; omega
        have e2 : IntKind.i64.wrap (told + o.got - o.asked) = told + o.got - o.asked := by rw [IntKind.wrap_i64]; omega
        generalize maxI (apV o d) (told + o.got - o.asked) = mx at hm2 hn2 hmb HR
        have e3 : IntKind.i64.wrap (mx + now) = mx + now := by rw [IntKind.wrap_i64]; omega
        have e4 : IntKind.i64.wrap (mx + now - o.got) = mx + now - o.got := by rw [IntKind.wrap_i64]; omega
        generalize minI 1000000000 (mx + now - o.got) = mn at hn2 HR
        have hmix := mixed
        by_cases hdn : 0 ≤ d
        · rw [if_pos hdn] at HAP
          have hm1 := fun W => specMax9 0 (o.got - d) W
          rw [← HAP.out] at hm1
          generalize apV o d = ap at hm1 hm2 hap
          have e5 : IntKind.i64.wrap (o.got - d) = o.got - d := by rw [IntKind.wrap_i64]; omega
          go_wp2_with fail
          refine (hm1 _).mono ?_
          rintro en w6 ⟨rfl, rfl⟩
          go_wp2
          go_quiet (first | (go_at_call 52; refine Calls.quiet_of_same ((hm2 _).mono fun _ _ h => ⟨h.1, h.2.symm⟩)) | (go_at_call 53; refine Calls.quiet_of_same ((hn2 _).mono fun _ _ h => ⟨h.1, h.2.symm⟩)))
          go_wp2
          go_ret
          exact ⟨ret_i10 HR.out, low_dn B5.out⟩
        · rw [if_neg hdn] at HAP
          rw [HAP.out] at hm2
          go_wp2
          go_quiet (first | (go_at_call 52; refine Calls.quiet_of_same ((hm2 _).mono fun _ _ h => ⟨h.1, h.2.symm⟩)) | (go_at_call 53; refine Calls.quiet_of_same ((hn2 _).mono fun _ _ h => ⟨h.1, h.2.symm⟩)))
          go_wp2
          go_ret
          exact ⟨ret_i10 HR.out, low_dn B5.out⟩
      · have dgn : decide (now < o.got) = true := decide_eq_true (by omega)
        have HR : Hid (-1 = A) := by show _ = _; rw [HA.out, if_neg (fun h => hgn h.2.2)]
        go_wp2
        go_ret
        exact ⟨ret_i10 HR.out, B1.out⟩
end Go.Proofs.YtkaogmdhjcgcdaaGreatDoor
namespace Go.Proofs.YtkaogmdhjcgcdaaGreatDoor
open Go.RowKit Go.Sort
set_option linter.unusedVariables false
set_option linter.unusedSimpArgs false

set_option maxRecDepth 100000 in
set_option maxHeartbeats 4000000 in
theorem specFresh (o : Ob) (v u : Value) (now e d : Int) (w : World) (h : ObIn w v u o) (he : FldMom o.r.l nEX e) (hd : FldMom o.r.l nDA d) (hn0 : -9223372036854775808 ≤ now) (hn1 : now ≤ 9223372036854775807) :
    Calls Tryz.prog 16 #[obV o v u, .int .i64 now] w fun en w' => en = .returned (.bool (freshV o now e d)) ∧ Below w.heap.size w w' := by
  have j1 := fun W hW => specAge o v u now d W hW hd hn0 hn1
  have j2 := fun W hW => specLife o.r u e d W hW he hd
  have j3 := fun W hW => specCtl u o.r.l W hW
  have HF : Hid (freshV o now e d = (decide (0 ≤ ageV o now d) && (decide (ageV o now d < lifeV o.r e d) && !(ctlOf o.r.l).nc))) := rfl
  generalize freshV o now e d = R at HF ⊢
  generalize ageV o now d = A at HF j1
  generalize lifeV o.r e d = L at HF j2
  generalize ctlOf o.r.l = C at HF j3
  clear he hd
  obtain ⟨va, vc, rfl⟩ := h.1.form
  obtain ⟨ua, uc, rfl⟩ := h.2.1.1.form
  have Q0 : Hid (ObB (w.alloc (.cells #[.string o.k, .slice va o.l.length vc, .int .i64 o.r.s, .slice ua o.r.l.length uc, .string o.r.b, .int .i64 o.asked, .int .i64 o.got, .int .i64 o.ep] 28)) w.heap.size o (.slice va o.l.length vc) (.slice ua o.r.l.length uc)) := ObB.new w o _ _ _
  have B0 : Hid (Below w.heap.size w (w.alloc (.cells #[.string o.k, .slice va o.l.length vc, .int .i64 o.r.s, .slice ua o.r.l.length uc, .string o.r.b, .int .i64 o.asked, .int .i64 o.got, .int .i64 o.ep] 28))) := (Below.refl _ w).alloc (Nat.le_refl _) _
  have I0 : Hid (ObIn (w.alloc (.cells #[.string o.k, .slice va o.l.length vc, .int .i64 o.r.s, .slice ua o.r.l.length uc, .string o.r.b, .int .i64 o.asked, .int .i64 o.got, .int .i64 o.ep] 28)) (.slice va o.l.length vc) (.slice ua o.r.l.length uc) o) := h.kept B0.out
  clear h
  unfold obV at j1 ⊢
  unfold rsV at j2
  go_enter Tryz.func16, Tryz.ntmps16
  go_wp2_with fail
  refine (j1 _ I0.out).mono ?_
  rintro en w1 ⟨rfl, hb1⟩
  have Q1 : Hid (ObB w1 w.heap.size o (.slice va o.l.length vc) (.slice ua o.r.l.length uc)) := Q0.out.next hb1
  have B1 : Hid (Below w.heap.size w w1) := past6 B0.out hb1
  have I1 : Hid (ObIn w1 (.slice va o.l.length vc) (.slice ua o.r.l.length uc) o) := I0.out.kept hb1
  clear hb1 Q0 B0 I0 j1
  by_cases hA : 0 ≤ A
  · have dA : decide (0 ≤ A) = true := decide_eq_true hA
    have q2 := Q1.out.c2
    have q3 := Q1.out.c3
    have q4 := Q1.out.c4
    go_wp2_with fail
    refine (j2 _ I1.out.2.1).mono ?_
    rintro en w2 ⟨rfl, hb2⟩
    have Q2 : Hid (ObB w2 w.heap.size o (.slice va o.l.length vc) (.slice ua o.r.l.length uc)) := Q1.out.next hb2
    have B2 : Hid (Below w.heap.size w w2) := past6 B1.out hb2
    have I2 : Hid (ObIn w2 (.slice va o.l.length vc) (.slice ua o.r.l.length uc) o) := I1.out.kept hb2
    clear hb2 Q1 B1 I1 j2 q2 q3 q4
    have q3 := Q2.out.c3
    by_cases hL : A < L
    · have dL : decide (A < L) = true := decide_eq_true hL
      have HR : Hid ((!C.nc) = R) := by show _ = _; rw [HF.out, dA, dL]; simp
      obtain ⟨xa, xs, xt, xns, xnc, xpr, xmu⟩ := C
      simp only at HR
      clear HF
      unfold ctV at j3
      simp only at j3
      go_wp2_with fail
      refine (j3 _ I2.out.2.1.1).mono ?_
      rintro en w3 ⟨rfl, hb3⟩
      have B3 : Hid (Below w.heap.size w w3) := past6 B2.out hb3
      clear hb3 Q2 B2 I2 j3 q3
      have hfd : ∀ W : World, (Instr.field 50 (.agg #[.int .i64 xa, .int .i64 xs, .int .i64 xt, .bool xns, .bool xnc, .bool xpr, .bool xmu]) 4).run Tryz.prog W = .ok (.bool xnc) W := fun _ => by kernel_rfl
      go_wp2
      go_ret
      exact ⟨ret_bool HR.out, B3.out⟩
    · have dL : decide (A < L) = false := decide_eq_false hL
      have HR : Hid (false = R) := by show _ = _; rw [HF.out, dA, dL]; simp
      go_wp2
      go_ret
      exact ⟨ret_bool HR.out, B2.out⟩
  · have dA : decide (0 ≤ A) = false := decide_eq_false hA
    have HR : Hid (false = R) := by show _ = _; rw [HF.out, dA]; simp
    go_wp2
    go_ret
    exact ⟨ret_bool HR.out, B1.out⟩
end Go.Proofs.YtkaogmdhjcgcdaaGreatDoor
namespace Go.Proofs.YtkaogmdhjcgcdaaGreatDoor
open Go.RowKit Go.ChangeShapes Go.WideShapes

theorem cell_lt {w : World} {b o : Nat} {v : Value} (h : w.cell? ⟨b, o, none⟩ = some v) : b < w.heap.size := by
  cases e : w.heap[b]? with
  | none => simp [World.cell?, e] at h
  | some x => exact (Array.getElem?_eq_some_iff.1 e).1
def strOf : Value → ByteArray
  | .string s => s
  | _ => ⟨#[]⟩
theorem open_flds {H : Type} {enc : TypeId × Value → H} {W : World} {base : Nat} {spare : Nat → Bool} {held : Bool} {fuel : Nat} {sa : Option Addr} {sl sc : Nat} {x : DataW H × List MemPlace}
    (h : DataW.trod enc Tryz.prog W base spare held fuel 52 (Value.cells (.slice sa sl sc)).toList = some x) :
    ∃ fs : List Fl, Fls W (.slice sa sl sc) fs ∧ ∀ f ∈ fs, f.1.size ≤ maxLen ∧ f.2.size ≤ maxLen := by
  rcases Deep.open_slice_pairs Tryz.underlying52 Tryz.underlying109 (by kernel_rfl) rfl rfl (by kernel_rfl) (by kernel_rfl) h with ⟨hcs, _⟩ | ⟨a, len, cap, m, n, V0, V1, D0, D1, P0, P1, hcs, hb, hl, hm, hmm, _, hx⟩
  · simp [Value.cells] at hcs
    obtain ⟨rfl, rfl, rfl⟩ := hcs
    exact ⟨[], ⟨none, 0, rfl, Nat.le_refl _, Nat.zero_le _, fun h => absurd h (by simp)⟩, fun f hf => by cases hf⟩
  · simp [Value.cells] at hcs
    obtain ⟨rfl, rfl, rfl⟩ := hcs
    have hlm : sl ≤ m := by rw [hmm]; split <;> omega
    have each : ∀ i, i < sl → ∃ s t : ByteArray, V0 i = .string s ∧ V1 i = .string t ∧ s.size ≤ maxLen ∧ t.size ≤ maxLen := by
      intro i hi
      obtain ⟨_, _, t0, t1⟩ := hx i (by omega)
      obtain ⟨s, e0, _, z0⟩ := DataW.trod_string Tryz.underlying9 t0
      obtain ⟨t, e1, _, z1⟩ := DataW.trod_string Tryz.underlying9 t1
      exact ⟨s, t, by simpa using e0, by simpa using e1, z0, z1⟩
    refine ⟨(List.range sl).map fun i => (strOf (V0 i), strOf (V1 i)), ⟨some a, sc, by simp, by simpa using hl, hm, fun h0 => ?_⟩, fun f hf => ?_⟩
    · have h0' : 0 < sl := by simpa using h0
      obtain ⟨c0, _⟩ := hx 0 (by omega)
      obtain ⟨b, o, sp⟩ := a
      have hsp : sp = none := by
        have : W.cell? ⟨b, o, sp⟩ = some (V0 0) := by simpa [Addr.add] using c0
        exact Go.Proofs.cell_spot this
      subst hsp
      have hlt : b < W.heap.size := by
        rw [addr_add] at c0
        exact cell_lt c0
      refine ⟨b, o, rfl, hlt, fun j hj => ?_⟩
      have hj' : j < sl := by simpa using hj
      obtain ⟨c1, c2, _⟩ := hx j (by omega)
      obtain ⟨s, t, e0, e1, _⟩ := each j hj'
      rw [addr_add] at c1 c2
      rw [e0] at c1
      rw [e1] at c2
      refine ⟨?_, ?_⟩
      · rw [c1]; simp [e0, strOf]
      · rw [show o + j * 2 + 1 = o + (j * 2 + 1) from by omega, c2]; simp [e1, strOf]
    · obtain ⟨i, hi, rfl⟩ := List.mem_map.1 hf
      obtain ⟨s, t, e0, e1, z0, z1⟩ := each i (by simpa using hi)
      simp only [e0, e1, strOf]
      exact ⟨z0, z1⟩
end Go.Proofs.YtkaogmdhjcgcdaaGreatDoor
namespace Go.Proofs.YtkaogmdhjcgcdaaGreatDoor
open Go.RowKit Go.Sort Go.ChangeShapes Go.WideShapes Go.ChangeAt Go.Joins Go.Deep
set_option linter.unusedVariables false

set_option maxHeartbeats 400000 in
theorem szN (v : Value) (l : List Fl) (x : Int) (w : World) (hx0 : 0 ≤ x) (hx1 : x ≤ 1048576) (h : Fls w v l) (hz : ∀ f ∈ l, f.1.size ≤ maxLen ∧ f.2.size ≤ maxLen) :
    Calls Tryz.prog 33 #[v, .int .i64 x] w fun e w' => (∃ r : Int, e = .returned (.int .i64 r) ∧ (r = -1 ∨ (0 ≤ r ∧ r + (l.length : Int) + (szL l : Int) = x))) ∧ Below w.heap.size w w' := by
  obtain ⟨a, cap, rfl, h1, h2, h3⟩ := h
  unfold maxLen at h2
  by_cases hbig : x < (l.length : Int)
  · have hneg : x - (l.length : Int) < 0 := by omega
    go_enter Tryz.func33, Tryz.ntmps33
    go_wp2
    go_ret
    exact ⟨⟨-1, rfl, Or.inl rfl⟩, Below.refl _ _⟩
  · have hneg : ¬ x - (l.length : Int) < 0 := by omega
    go_enter Tryz.func33, Tryz.ntmps33
    go_wp2
    go_loopw [1, 5] (fun y i wr => ∃ (k r : Nat), k ≤ l.length ∧ i = .int .i64 k ∧ y = .int .i64 r ∧ (r : Int) + (l.length : Int) + (szL (l.take k) : Int) = x ∧ Below w.heap.size w wr) (fun _ i _ => l.length - (intOf i).toNat)
    case atStart => exact ⟨0, (x - (l.length : Int)).toNat, Nat.zero_le _, rfl, by rw [Int.toNat_of_nonneg (by omega)], by show _ + _ + ((0 : Nat) : Int) = x; rw [Int.toNat_of_nonneg (by omega)]; omega, Below.refl _ _⟩
    case round =>
      obtain ⟨k, r, hk, rfl, rfl, hr, hb⟩ := hrel
      by_cases hlt : k < l.length
      · obtain ⟨g, o, rfl, hg, hc⟩ := h3 (by omega)
        have c1 := (hb.cell (p := ⟨g, o + k * 2, none⟩) hg).trans (hc k hlt).1
        have c2 := (hb.cell (p := ⟨g, o + k * 2 + 1, none⟩) hg).trans (hc k hlt).2
        have hsz := hz l[k] (List.getElem_mem hlt)
        have hnx := szL_next hlt
        generalize l[k] = f at c1 c2 hsz hnx
        clear hc h3 hz
        go_wp2_with (go_at_call 86; refine (szF1 f r (by omega) hsz.1 hsz.2 _).mono ?_; rintro e w1 ⟨⟨r', rfl, hr'⟩, hb1⟩)
        · go_ret
          exact ⟨⟨-1, rfl, Or.inl rfl⟩, hb.trans (hb1.mono hb.size)⟩
        · have hr2 : 0 ≤ r' ∧ r' + f.1.size + f.2.size = r := by omega
          go_roundw
          case rel => exact ⟨k + 1, r'.toNat, by omega, by go_num, by rw [Int.toNat_of_nonneg hr2.1], by omega, hb.trans (hb1.mono hb.size)⟩
          case measure => simp [intOf]; omega
      · obtain rfl : k = l.length := by omega
        rw [List.take_length] at hr
        go_wp2
        go_ret
        exact ⟨⟨_, rfl, Or.inr ⟨by omega, by omega⟩⟩, hb⟩


/-! ### Opening -/
theorem array3m {α : Type} {cs : Array α} (h : cs.size = 3) : ∃ c0 c1 c2, cs = #[c0, c1, c2] := by
  obtain ⟨l⟩ := cs
  match l, h with
  | [c0, c1, c2], _ => exact ⟨c0, c1, c2, rfl⟩
theorem open_fldsV {H : Type} {enc : TypeId × Value → H} {W : World} {base : Nat} {spare : Nat → Bool} {held : Bool} {fuel : Nat} {c : Value} {x : DataW H × List MemPlace}
    (h : DataW.trod enc Tryz.prog W base spare held fuel 52 [c] = some x) :
    ∃ fs : List Fl, Fls W c fs ∧ (∀ f ∈ fs, f.1.size ≤ maxLen ∧ f.2.size ≤ maxLen) ∧ Solid c := by
  rcases Deep.open_slice_pairs Tryz.underlying52 Tryz.underlying109 (by kernel_rfl) rfl rfl (by kernel_rfl) (by kernel_rfl) h with ⟨hcs, _⟩ | ⟨a, len, cap, m, n, V0, V1, D0, D1, P0, P1, hcs, _⟩
  · simp at hcs
    subst hcs
    obtain ⟨fs, h1, h2⟩ := open_flds (sa := none) (sl := 0) (sc := 0) (by simpa [Value.cells] using h)
    exact ⟨fs, h1, h2, fun n c e => by injection e with _ _ e; exact e.symm⟩
  · simp at hcs
    subst hcs
    obtain ⟨fs, h1, h2⟩ := open_flds (sa := some a) (sl := len) (sc := cap) (by simpa [Value.cells] using h)
    exact ⟨fs, h1, h2, fun n c e => by injection e with e _ _; cases e⟩
def RsGot (w : World) (u : Value) (r : Rs) : Prop := Fls w u r.l ∧ (∀ f ∈ r.l, f.1.size ≤ maxLen ∧ f.2.size ≤ maxLen) ∧ Solid u ∧ r.b.size ≤ maxLen
set_option maxRecDepth 100000 in
theorem open_rs {H : Type} {enc : TypeId × Value → H} {w : World} {base : Nat} {spare : Nat → Bool} {held : Bool} {r : Reach} {b0 : Nat} {v : Value} {d : DataW H} {p : List MemPlace}
    (hv : Value.okWide Tryz.prog w r b0 54 v) (h : DataW.Trod enc Tryz.prog w base spare held 54 v d p) :
    ∃ (q : Rs) (u : Value), v = rsV q u ∧ RsGot w u q ∧ (Lit.int .i64 q.s).wf = true := by
  have hs := Tryz.underlying54
  obtain ⟨cs, rfl, hsz⟩ := okWide_struct hs hv
  obtain ⟨c0, c1, c2, rfl⟩ := array3m (hsz.trans (by kernel_rfl))
  obtain ⟨fuel, hfu⟩ := h
  obtain ⟨xs, n, _, hx, hl, hlen, hfs⟩ := DataW.trod_struct hs hfu
  match xs, hlen with
  | [y0, y1, y2], _ =>
    have g0 : DataW.trod enc Tryz.prog w base spare held n 2 [c0] = some y0 := by simpa [Value.cells, show Tryz.prog.cellsOf 2 = 1 by kernel_rfl] using hfs 0 _ rfl
    have g1 : DataW.trod enc Tryz.prog w base spare held n 52 [c1] = some y1 := by simpa [Value.cells, show Tryz.prog.cellsOf 52 = 1 by kernel_rfl] using hfs 1 _ rfl
    have g2 : DataW.trod enc Tryz.prog w base spare held n 9 [c2] = some y2 := by simpa [Value.cells, show Tryz.prog.cellsOf 9 = 1 by kernel_rfl] using hfs 2 _ rfl
    obtain ⟨a0, e0, rfl, w0⟩ := DataW.trod_int Tryz.underlying2 g0
    obtain ⟨a2, e2, rfl, w2⟩ := DataW.trod_string Tryz.underlying9 g2
    obtain ⟨fs, f1, f2, f3⟩ := open_fldsV g1
    simp at e0 e2
    subst e0 e2
    exact ⟨⟨a0, fs, a2⟩, c1, rfl, ⟨f1, f2, f3, w2⟩, w0⟩

/-! ### The laws' helpers -/
set_option maxHeartbeats 1000000 in
theorem lawSzRs (r : Rs) (v : Value) (w : World) (h : RsGot w v r) :
    Calls Tryz.prog 34 #[rsV r v, .int .i64 1048576] w fun e w' => (∃ x : Int, e = .returned (.int .i64 x) ∧ (x = -1 ∨ (0 ≤ x ∧ (r.l.length + szL r.l) + r.b.size ≤ 1048576))) ∧ Below w.heap.size w w' := by
  obtain ⟨hf, hfz, hsol, z3⟩ := h
  have hfs := hf
  obtain ⟨a, cap, rfl, hcap⟩ := hfs
  clear hcap
  unfold rsV
  unfold maxLen at z3
  have F0 : Hid (Fls (w.alloc (.cells #[.int .i64 r.s, .slice a r.l.length cap, .string r.b] 54)) (.slice a r.l.length cap) r.l) := hf.kept ((Below.refl _ w).alloc (Nat.le_refl _) _)
  have Q0 : Hid (RsB (w.alloc (.cells #[.int .i64 r.s, .slice a r.l.length cap, .string r.b] 54)) w.heap.size r (.slice a r.l.length cap)) := RsB.new w r _ _
  have B0 : Hid (Below w.heap.size w (w.alloc (.cells #[.int .i64 r.s, .slice a r.l.length cap, .string r.b] 54))) := (Below.refl _ w).alloc (Nat.le_refl _) _
  have HZ : Hid (∀ f ∈ r.l, f.1.size ≤ maxLen ∧ f.2.size ≤ maxLen) := hfz
  clear hf hfz hsol
  go_enter Tryz.func34, Tryz.ntmps34
  go_wp2_with fail
  refine (szN _ r.l _ _ (by omega) (by omega) F0.out HZ.out).mono ?_
  rintro e w1 ⟨⟨x, rfl, hx⟩, hb1⟩
  have Q1 : Hid (RsB w1 w.heap.size r (.slice a r.l.length cap)) := Q0.out.next hb1
  have B1 : Hid (Below w.heap.size w w1) := past6 B0.out hb1
  have a2 := Q1.out.c2
  clear Q0 B0 hb1 F0
  rcases hx with rfl | ⟨hx0, hx1⟩
  · go_wp2
    go_ret
    exact ⟨⟨_, rfl, .inl rfl⟩, B1.out⟩
  · have d3 : ¬ x < 0 := by omega
    have hx2 : x ≤ 1048576 := by omega
    by_cases h4 : x < (r.b.size : Int)
    · have d4 : x - (r.b.size : Int) < 0 := by omega
      go_wp2
      go_ret
      exact ⟨⟨_, rfl, .inl rfl⟩, B1.out⟩
    · have d4 : ¬ x - (r.b.size : Int) < 0 := by omega
      have HX : Hid ((r.l.length + szL r.l) + r.b.size ≤ 1048576) := by show _ ≤ _; omega
      clear hx1
      go_wp2
      go_ret
      exact ⟨⟨_, rfl, .inr ⟨by omega, HX.out⟩⟩, B1.out⟩
end Go.Proofs.YtkaogmdhjcgcdaaGreatDoor
namespace Go.Proofs.YtkaogmdhjcgcdaaGreatDoor
open Go.RowKit Go.Sort Go.ChangeShapes Go.WideShapes Go.ChangeAt Go.Joins Go.Deep
set_option linter.unusedVariables false

/-- What a law is told of an object that came in. -/
def ObGot (w : World) (v u : Value) (o : Ob) : Prop := Fls w v o.l ∧ (∀ f ∈ o.l, f.1.size ≤ maxLen ∧ f.2.size ≤ maxLen) ∧ Solid v ∧ RsGot w u o.r ∧ o.k.size ≤ maxLen
theorem array8m {α : Type} {cs : Array α} (h : cs.size = 8) : ∃ c0 c1 c2 c3 c4 c5 c6 c7, cs = #[c0, c1, c2, c3, c4, c5, c6, c7] := by
  obtain ⟨l⟩ := cs
  match l, h with
  | [c0, c1, c2, c3, c4, c5, c6, c7], _ => exact ⟨c0, c1, c2, c3, c4, c5, c6, c7, rfl⟩
set_option maxRecDepth 100000 in
theorem open_rs3 {H : Type} {enc : TypeId × Value → H} {w : World} {base : Nat} {spare : Nat → Bool} {held : Bool} {fuel : Nat} {c0 c1 c2 : Value} {x : DataW H × List MemPlace}
    (h : DataW.trod enc Tryz.prog w base spare held fuel 54 [c0, c1, c2] = some x) :
    ∃ (q : Rs), c0 = .int .i64 q.s ∧ c2 = .string q.b ∧ RsGot w c1 q ∧ (Lit.int .i64 q.s).wf = true := by
  have hs := Tryz.underlying54
  obtain ⟨xs, n, _, hx, hl, hlen, hfs⟩ := DataW.trod_struct hs h
  match xs, hlen with
  | [y0, y1, y2], _ =>
    have g0 : DataW.trod enc Tryz.prog w base spare held n 2 [c0] = some y0 := by simpa [Value.cells, show Tryz.prog.cellsOf 2 = 1 by kernel_rfl] using hfs 0 _ rfl
    have g1 : DataW.trod enc Tryz.prog w base spare held n 52 [c1] = some y1 := by simpa [Value.cells, show Tryz.prog.cellsOf 52 = 1 by kernel_rfl] using hfs 1 _ rfl
    have g2 : DataW.trod enc Tryz.prog w base spare held n 9 [c2] = some y2 := by simpa [Value.cells, show Tryz.prog.cellsOf 9 = 1 by kernel_rfl] using hfs 2 _ rfl
    obtain ⟨a0, e0, rfl, w0⟩ := DataW.trod_int Tryz.underlying2 g0
    obtain ⟨a2, e2, rfl, w2⟩ := DataW.trod_string Tryz.underlying9 g2
    obtain ⟨fs, f1, f2, f3⟩ := open_fldsV g1
    simp at e0 e2
    subst e0 e2
    exact ⟨⟨a0, fs, a2⟩, rfl, rfl, ⟨f1, f2, f3, w2⟩, w0⟩
set_option maxRecDepth 100000 in
theorem open_ob {H : Type} {enc : TypeId × Value → H} {w : World} {base : Nat} {spare : Nat → Bool} {held : Bool} {r : Reach} {b0 : Nat} {v : Value} {d : DataW H} {p : List MemPlace}
    (hv : Value.okWide Tryz.prog w r b0 64 v) (h : DataW.Trod enc Tryz.prog w base spare held 64 v d p) :
    ∃ (o : Ob) (x u : Value), v = obV o x u ∧ ObGot w x u o ∧ (Lit.int .i64 o.r.s).wf = true ∧ (Lit.int .i64 o.asked).wf = true ∧ (Lit.int .i64 o.got).wf = true ∧ (Lit.int .i64 o.ep).wf = true := by
  have hs := Tryz.underlying64
  obtain ⟨cs, rfl, hsz⟩ := okWide_struct hs hv
  obtain ⟨c0, c1, c2, c3, c4, c5, c6, c7, rfl⟩ := array8m (hsz.trans (by kernel_rfl))
  obtain ⟨fuel, hfu⟩ := h
  obtain ⟨xs, n, _, hx, hl, hlen, hfs⟩ := DataW.trod_struct hs hfu
  match xs, hlen with
  | [y0, y1, y2, y3, y4, y5], _ =>
    have g0 : DataW.trod enc Tryz.prog w base spare held n 9 [c0] = some y0 := by simpa [Value.cells, show Tryz.prog.cellsOf 9 = 1 by kernel_rfl] using hfs 0 _ rfl
    have g1 : DataW.trod enc Tryz.prog w base spare held n 52 [c1] = some y1 := by simpa [Value.cells, show Tryz.prog.cellsOf 52 = 1 by kernel_rfl] using hfs 1 _ rfl
    have g2 : DataW.trod enc Tryz.prog w base spare held n 54 [c2, c3, c4] = some y2 := by simpa [Value.cells, show Tryz.prog.cellsOf 54 = 3 by kernel_rfl] using hfs 2 _ rfl
    have g3 : DataW.trod enc Tryz.prog w base spare held n 2 [c5] = some y3 := by simpa [Value.cells, show Tryz.prog.cellsOf 2 = 1 by kernel_rfl] using hfs 3 _ rfl
    have g4 : DataW.trod enc Tryz.prog w base spare held n 2 [c6] = some y4 := by simpa [Value.cells, show Tryz.prog.cellsOf 2 = 1 by kernel_rfl] using hfs 4 _ rfl
    have g5 : DataW.trod enc Tryz.prog w base spare held n 2 [c7] = some y5 := by simpa [Value.cells, show Tryz.prog.cellsOf 2 = 1 by kernel_rfl] using hfs 5 _ rfl
    obtain ⟨a0, e0, rfl, w0⟩ := DataW.trod_string Tryz.underlying9 g0
    obtain ⟨fs, f1, f2, f3⟩ := open_fldsV g1
    obtain ⟨q, r0, r2, rg, rw⟩ := open_rs3 g2
    obtain ⟨a3, e3, rfl, w3⟩ := DataW.trod_int Tryz.underlying2 g3
    obtain ⟨a4, e4, rfl, w4⟩ := DataW.trod_int Tryz.underlying2 g4
    obtain ⟨a5, e5, rfl, w5⟩ := DataW.trod_int Tryz.underlying2 g5
    simp at e0 e3 e4 e5
    subst e0 e3 e4 e5 r0 r2
    exact ⟨⟨a0, fs, q, a3, a4, a5⟩, c1, c3, rfl, ⟨f1, f2, f3, rg, w0⟩, rw, w3, w4, w5⟩
set_option maxHeartbeats 1000000 in
theorem lawSzRsX (r : Rs) (v : Value) (y : Int) (w : World) (hy0 : 0 ≤ y) (hy1 : y ≤ 1048576) (h : RsGot w v r) :
    Calls Tryz.prog 34 #[rsV r v, .int .i64 y] w fun e w' => (∃ x : Int, e = .returned (.int .i64 x) ∧ (x = -1 ∨ (0 ≤ x ∧ x + ((r.l.length : Int) + (szL r.l : Int)) + (r.b.size : Int) = y))) ∧ Below w.heap.size w w' := by
  obtain ⟨hf, hfz, hsol, z3⟩ := h
  have hfs := hf
  obtain ⟨a, cap, rfl, hcap⟩ := hfs
  clear hcap
  unfold rsV
  unfold maxLen at z3
  have F0 : Hid (Fls (w.alloc (.cells #[.int .i64 r.s, .slice a r.l.length cap, .string r.b] 54)) (.slice a r.l.length cap) r.l) := hf.kept ((Below.refl _ w).alloc (Nat.le_refl _) _)
  have Q0 : Hid (RsB (w.alloc (.cells #[.int .i64 r.s, .slice a r.l.length cap, .string r.b] 54)) w.heap.size r (.slice a r.l.length cap)) := RsB.new w r _ _
  have B0 : Hid (Below w.heap.size w (w.alloc (.cells #[.int .i64 r.s, .slice a r.l.length cap, .string r.b] 54))) := (Below.refl _ w).alloc (Nat.le_refl _) _
  have HZ : Hid (∀ f ∈ r.l, f.1.size ≤ maxLen ∧ f.2.size ≤ maxLen) := hfz
  clear hf hfz hsol
  go_enter Tryz.func34, Tryz.ntmps34
  go_wp2_with fail
  refine (szN _ r.l _ _ (by omega) (by omega) F0.out HZ.out).mono ?_
  rintro e w1 ⟨⟨x, rfl, hx⟩, hb1⟩
  have Q1 : Hid (RsB w1 w.heap.size r (.slice a r.l.length cap)) := Q0.out.next hb1
  have B1 : Hid (Below w.heap.size w w1) := past6 B0.out hb1
  have a2 := Q1.out.c2
  clear Q0 B0 hb1 F0
  rcases hx with rfl | ⟨hx0, hx1⟩
  · go_wp2
    go_ret
    exact ⟨⟨_, rfl, .inl rfl⟩, B1.out⟩
  · have d3 : ¬ x < 0 := by omega
    have hx2 : x ≤ 1048576 := by omega
    by_cases h4 : x < (r.b.size : Int)
    · have d4 : x - (r.b.size : Int) < 0 := by omega
      go_wp2
      go_ret
      exact ⟨⟨_, rfl, .inl rfl⟩, B1.out⟩
    · have d4 : ¬ x - (r.b.size : Int) < 0 := by omega
      have HX : Hid (x - (r.b.size : Int) + ((r.l.length : Int) + (szL r.l : Int)) + (r.b.size : Int) = y) := by show _ = _; omega
      clear hx1
      go_wp2
      go_ret
      exact ⟨⟨_, rfl, .inr ⟨by omega, HX.out⟩⟩, B1.out⟩
set_option maxHeartbeats 1000000 in
theorem lawSzObX (o : Ob) (v u : Value) (y0 : Int) (w : World) (hy0 : 0 ≤ y0) (hy1 : y0 ≤ 1048576) (h : ObGot w v u o) :
    Calls Tryz.prog 39 #[obV o v u, .int .i64 y0] w fun e w' => (∃ x : Int, e = .returned (.int .i64 x) ∧ (x = -1 ∨ (0 ≤ x ∧ x + (o.k.size : Int) + ((o.l.length : Int) + (szL o.l : Int)) + (((o.r.l.length : Int) + (szL o.r.l : Int)) + (o.r.b.size : Int)) = y0))) ∧ Below w.heap.size w w' := by
  obtain ⟨hf, hfz, hsol, hr, z1⟩ := h
  have hfs := hf
  obtain ⟨va, vc, rfl, hcap⟩ := hfs
  clear hcap
  have hrs := hr.1
  obtain ⟨ua, uc, rfl, hcap⟩ := hrs
  clear hcap
  unfold maxLen at z1
  have B0 : Hid (Below w.heap.size w (w.alloc (.cells #[.string o.k, .slice va o.l.length vc, .int .i64 o.r.s, .slice ua o.r.l.length uc, .string o.r.b, .int .i64 o.asked, .int .i64 o.got, .int .i64 o.ep] 64))) := (Below.refl _ w).alloc (Nat.le_refl _) _
  have F0 : Hid (Fls (w.alloc (.cells #[.string o.k, .slice va o.l.length vc, .int .i64 o.r.s, .slice ua o.r.l.length uc, .string o.r.b, .int .i64 o.asked, .int .i64 o.got, .int .i64 o.ep] 64)) (.slice va o.l.length vc) o.l) := hf.kept B0.out
  have G0 : Hid (RsGot (w.alloc (.cells #[.string o.k, .slice va o.l.length vc, .int .i64 o.r.s, .slice ua o.r.l.length uc, .string o.r.b, .int .i64 o.asked, .int .i64 o.got, .int .i64 o.ep] 64)) (.slice ua o.r.l.length uc) o.r) := ⟨hr.1.kept B0.out, hr.2⟩
  have Q0 : Hid (ObB (w.alloc (.cells #[.string o.k, .slice va o.l.length vc, .int .i64 o.r.s, .slice ua o.r.l.length uc, .string o.r.b, .int .i64 o.asked, .int .i64 o.got, .int .i64 o.ep] 64)) w.heap.size o (.slice va o.l.length vc) (.slice ua o.r.l.length uc)) := ObB.new w o _ _ _
  have HZ : Hid (∀ f ∈ o.l, f.1.size ≤ maxLen ∧ f.2.size ≤ maxLen) := hfz
  have j2 := fun y W h0 h1 hW => lawSzRsX o.r (.slice ua o.r.l.length uc) y W h0 h1 hW
  clear hf hfz hsol hr
  unfold obV
  unfold rsV at j2
  by_cases h1 : y0 < (o.k.size : Int)
  · have d1 : y0 - (o.k.size : Int) < 0 := by omega
    go_enter Tryz.func39, Tryz.ntmps39
    go_wp2
    go_ret
    exact ⟨⟨_, rfl, .inl rfl⟩, B0.out⟩
  · have d1 : ¬ y0 - (o.k.size : Int) < 0 := by omega
    go_enter Tryz.func39, Tryz.ntmps39
    go_wp2_with fail
    refine (szN _ o.l _ _ (by omega) (by omega) F0.out HZ.out).mono ?_
    rintro e w1 ⟨⟨x, rfl, hx⟩, hb1⟩
    have Q1 : Hid (ObB w1 w.heap.size o (.slice va o.l.length vc) (.slice ua o.r.l.length uc)) := Q0.out.next hb1
    have B1 : Hid (Below w.heap.size w w1) := past6 B0.out hb1
    have G1 : Hid (RsGot w1 (.slice ua o.r.l.length uc) o.r) := ⟨G0.out.1.kept hb1, G0.out.2⟩
    clear Q0 B0 hb1 F0 G0
    rcases hx with rfl | ⟨hx0, hx1⟩
    · go_wp2
      go_ret
      exact ⟨⟨_, rfl, .inl rfl⟩, B1.out⟩
    · have d3 : ¬ x < 0 := by omega
      have hx2 : x ≤ 1048576 := by omega
      have q2 := Q1.out.c2
      have q3 := Q1.out.c3
      have q4 := Q1.out.c4
      go_wp2_with fail
      refine (j2 x _ hx0 hx2 G1.out).mono ?_
      rintro e w2 ⟨⟨y, rfl, hy⟩, hb2⟩
      have B2 : Hid (Below w.heap.size w w2) := past6 B1.out hb2
      clear hb2 B1 Q1 G1 q2 q3 q4 j2
      rcases hy with rfl | ⟨hz0, hz1⟩
      · go_wp2
        go_ret
        exact ⟨⟨_, rfl, .inl rfl⟩, B2.out⟩
      · have d4 : ¬ y < 0 := by omega
        have HX : Hid (y + (o.k.size : Int) + ((o.l.length : Int) + (szL o.l : Int)) + (((o.r.l.length : Int) + (szL o.r.l : Int)) + (o.r.b.size : Int)) = y0) := by show _ = _; omega
        clear hx1 hz1
        go_wp2
        go_ret
        exact ⟨⟨_, rfl, .inr ⟨hz0, HX.out⟩⟩, B2.out⟩
theorem lawSzOb (o : Ob) (v u : Value) (w : World) (h : ObGot w v u o) :
    Calls Tryz.prog 39 #[obV o v u, .int .i64 1048576] w fun e w' => (∃ x : Int, e = .returned (.int .i64 x) ∧ (x = -1 ∨ (0 ≤ x ∧ x + (o.k.size : Int) + ((o.l.length : Int) + (szL o.l : Int)) + (((o.r.l.length : Int) + (szL o.r.l : Int)) + (o.r.b.size : Int)) = 1048576))) ∧ Below w.heap.size w w' := lawSzObX o v u 1048576 w (by decide) (by decide) h
end Go.Proofs.YtkaogmdhjcgcdaaGreatDoor
