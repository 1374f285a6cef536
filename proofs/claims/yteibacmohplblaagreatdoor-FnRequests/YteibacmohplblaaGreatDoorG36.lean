/-
  The program's shownMessage, ShowRequest and ShowResponse by their contracts.
  What the listed table of powers of ten gives to the walks.
  The table of powers of ten, out of what the rows list.
-/
import Derived.Test.YteibacmohplblaaGreatDoorG23
import Derived.Test.YteibacmohplblaaGreatDoorG34
import Derived.Test.YteibacmohplblaaGreatDoorShelfG
import Derived.Lib.SmallJoins
import Derived.Lib.QuietBelow
import Derived.ProofKit
import Derived.Lib.LaidU8
import Derived.MakeChecks
namespace Go.Proofs.YteibacmohplblaaGreatDoor
open Go.RowKit Go.Sort
set_option linter.unusedVariables false

/-- The library's table of powers of ten lies as its text lays it. -/
def Tab (w : World) : Prop := Lib.TabIs Tryz.prog w "internal/strconv.uint64pow10" .u64 Lib.pow10Tab
theorem gPow : Tryz.prog.globalNamed "internal/strconv.uint64pow10" = some 0 := by kernel_rfl
theorem Tab.low {w w' : World} (h : Tab w) (hb : Below w.heap.size w w') : Tab w' := Go.Joins.tab_stays gPow h hb (Nat.le_refl _)
theorem numF_dec : ∀ (f n : Nat), n < 10 ^ (f + 1) → numF f n = Lib.decDigits n
  | 0, n, h => by
    rw [numF_small 0 n (by omega), Lib.decDigits, dif_pos (by omega)]
    rfl
  | f + 1, n, h => by
    by_cases h10 : n < 10
    · rw [numF_small _ _ h10, Lib.decDigits, dif_pos h10]
      rfl
    · have h1 : n / 10 < 10 ^ (f + 1) := by
        rw [Nat.pow_succ] at h
        exact Nat.div_lt_of_lt_mul (by rw [Nat.mul_comm]; exact h)
      rw [numF_step f n h10, Lib.decDigits, dif_neg h10, numF_dec f (n / 10) h1]
      rfl
theorem itoa_dec {n : Nat} (h : n ≤ 100000000) : (⟨(Lib.itoa (n : Int)).toArray⟩ : ByteArray) = decS n := by
  unfold decS
  rw [numF_dec 8 n (by omega)]
  unfold Lib.itoa
  rw [if_neg (by omega), Int.toNat_natCast]
theorem below_grow6 (w : World) (k : Nat) (os : Array Obj) : Below w.heap.size w (grow (w.drewN k) os) :=
  ⟨rfl, rfl, rfl, by simp [grow], fun j hj => by simp only [grow]; exact Array.getElem?_append_left hj⟩
theorem implItoa (n : Nat) (hn : n ≤ 100000000) (w : World) (ht : Tab w) :
    Calls Tryz.prog 88 #[.int .i64 n] w fun e w' => e = .returned (.string (decS n)) ∧ Below w.heap.size w w' := by
  rw [← itoa_dec hn]
  exact (Tryz.itoa n (by omega) (by omega) w ht).mono fun e w' ⟨h1, k, os, h2⟩ => ⟨h1, by rw [h2]; exact below_grow6 w k os⟩
theorem implFmt (n : Nat) (hn : n ≤ 100000000) (w : World) (ht : Tab w) :
    Calls Tryz.prog 74 #[.int .i64 n, .int .i64 10] w fun e w' => e = .returned (.string (decS n)) ∧ Below w.heap.size w w' := by
  rw [← itoa_dec hn]
  exact (Tryz.formatInt n (by omega) (by omega) w ht).mono fun e w' ⟨h1, k, os, h2⟩ => ⟨h1, by rw [h2]; exact below_grow6 w k os⟩
theorem fls_one (w : World) (n x : ByteArray) : Fls (w.alloc (.cells #[.string n, .string x] 81)) (.slice (some ⟨w.heap.size, 0, none⟩) 1 1) [(n, x)] := by
  refine ⟨_, 1, rfl, Nat.le_refl _, by unfold maxLen; omega, fun _ => ⟨w.heap.size, 0, rfl, by simp, fun j hj => ?_⟩⟩
  obtain rfl : j = 0 := by simpa using hj
  exact ⟨World.cell?_alloc_mark _ _ _ _ _, World.cell?_alloc_mark _ _ _ _ _⟩
theorem szL_one {n x : ByteArray} (h : fldOk (n, x) = true) : szL [(n, x)] ≤ 1048576 := by
  have h1 := fldOk_size h
  have e : szL [(n, x)] = szF (n, x) + 0 := by simp [szL]
  have e2 : szF (n, x) = n.size + x.size := rfl
  rw [e, e2]
  simp only at h1
  omega
theorem showOne (n x : ByteArray) (h : fldOk (n, x) = true) (w : World) :
    Calls Tryz.prog 87 #[.slice (some ⟨w.heap.size, 0, none⟩) 1 1] (w.alloc (.cells #[.string n, .string x] 81)) fun e w' => e = .returned (.string ⟨(showL [(n, x)]).toArray⟩) ∧ Below (w.alloc (.cells #[.string n, .string x] 81)).heap.size (w.alloc (.cells #[.string n, .string x] 81)) w' := by
  have k := implShow _ [(n, x)] _ (fls_one w n x) (szL_one h)
  rw [← showA_yes (fldsOk_mk (by simp) (by intro f hf; simp at hf; rw [hf]; exact h))] at k
  exact k
theorem showL_two (l m : List Fl) : showL (l ++ m) = showL l ++ showL m := by unfold showL; rw [List.flatMap_append]
theorem showL_one_small {n x : ByteArray} (h : fldOk (n, x) = true) : (⟨(showL [(n, x)]).toArray⟩ : ByteArray).size ≤ 1000 := by
  have h1 := fldOk_size h
  have l1 := len_of n
  have l2 := len_of x
  show (showL [(n, x)]).toArray.size ≤ 1000
  simp only at h1
  simp [showL, showF]
  omega

set_option maxHeartbeats 1000000 in
theorem implMsg (first : ByteArray) (v : Value) (l : List Fl) (b : ByteArray) (tell : Bool) (w : World) (h : Fits w v l) (hown : ownB l = true) (hf : first.size ≤ 100000) (hb : b.size ≤ 4000) (ht : Tab w) :
    Calls Tryz.prog 37 #[.string first, v, .string b, .bool tell] w fun e w' => e = .returned (.string (msgA first l b tell)) ∧ Below w.heap.size w w' := by
  have hok := (ownB_parts hown).1
  have hl0 : l.length ≤ 30 := (fldsOk_parts hok).1
  have hsh := implShow v l w h.1 h.2.1
  rw [← showA_yes hok] at hsh
  have hz := showL_small hok
  have hM1 := fun x => msgA_yes (first := first) (l := l) (b := b) (tell := tell) x
  have hM2 := fun x => msgA_no (first := first) (l := l) (b := b) (tell := tell) x
  obtain ⟨a, cap, rfl, hcap⟩ := h.1
  clear hcap h hown hok
  have TB : Hid (Tab w) := ht
  clear ht
  have q1 : (first ++ (⟨#[13, 10]⟩ : ByteArray)).size = first.size + 2 := by rw [ByteArray.size_append]; rfl
  have x1 : ¬ 9223372036854775807 < first.size + 2 := by omega
  cases tell with
  | false =>
    rw [addL_f] at hM1
    have HT : Hid (first ++ (⟨#[13, 10]⟩ : ByteArray) ++ ⟨(showL l).toArray⟩ ++ (⟨#[13, 10]⟩ : ByteArray) ++ b = msgA first l b false) := hM1 hl0
    generalize msgA first l b false = M at HT ⊢
    generalize (⟨(showL l).toArray⟩ : ByteArray) = p at hsh HT hz
    have q2 : (first ++ (⟨#[13, 10]⟩ : ByteArray) ++ p).size = first.size + 2 + p.size := by rw [ByteArray.size_append, q1]
    have q3 : (first ++ (⟨#[13, 10]⟩ : ByteArray) ++ p ++ (⟨#[13, 10]⟩ : ByteArray)).size = first.size + 2 + p.size + 2 := by rw [ByteArray.size_append, q2]; rfl
    have x2 : ¬ 9223372036854775807 < first.size + 2 + p.size := by omega
    have x3 : ¬ 9223372036854775807 < first.size + 2 + p.size + 2 := by omega
    have x4 : ¬ 9223372036854775807 < first.size + 2 + p.size + 2 + b.size := by omega
    clear hM1 hM2
    go_enter Tryz.func37, Tryz.ntmps37
    go_wp2_with (go_at_call 87; refine hsh.mono ?_; rintro e w1 ⟨rfl, hb1⟩)
    go_ret
    exact ⟨ret_strT HT.out, hb1⟩
  | true =>
    rw [addL_t] at hM1 hM2
    have hll1 : (l ++ [(clS, decS b.size)]).length = l.length + 1 := by simp
    rw [hll1] at hM1 hM2
    by_cases hlen : l.length < 30
    · have d1 : decide (30 ≤ (l.length : Int)) = false := by simp; omega
      have HD : fldOk (clS, decS b.size) = true := dec_fld (by omega)
      have hz2 := showL_one_small HD
      have HT : Hid (first ++ (⟨#[13, 10]⟩ : ByteArray) ++ ⟨(showL l).toArray⟩ ++ ⟨(showL [(clS, decS b.size)]).toArray⟩ ++ (⟨#[13, 10]⟩ : ByteArray) ++ b = msgA first l b true) := by
        refine Eq.trans ?_ (hM1 (by omega))
        refine ba_ext ?_
        simp only [add_list, showL_two]
        simp
      have hin : Hid (∀ W, Tab W → Calls Tryz.prog 88 #[.int .i64 b.size] W fun e w' => e = .returned (.string (decS b.size)) ∧ Below W.heap.size W w') := fun W hW => implItoa b.size (by omega) W hW
      have hs2 : Hid (∀ W : World, Calls Tryz.prog 87 #[.slice (some ⟨W.heap.size, 0, none⟩) 1 1] (W.alloc (.cells #[.string clS, .string (decS b.size)] 81)) fun e w' => e = .returned (.string ⟨(showL [(clS, decS b.size)]).toArray⟩) ∧ Below (W.alloc (.cells #[.string clS, .string (decS b.size)] 81)).heap.size (W.alloc (.cells #[.string clS, .string (decS b.size)] 81)) w') := fun W => showOne clS _ HD W
      clear hM1 hM2 hll1 HD
      generalize msgA first l b true = M at HT ⊢
      generalize (⟨(showL l).toArray⟩ : ByteArray) = p at hsh HT hz
      generalize (⟨(showL [(clS, decS b.size)]).toArray⟩ : ByteArray) = q at hs2 HT hz2
      generalize decS b.size = ds at hs2 hin
      unfold clS at hs2
      have q2 : (first ++ (⟨#[13, 10]⟩ : ByteArray) ++ p).size = first.size + 2 + p.size := by rw [ByteArray.size_append, q1]
      have q3 : (first ++ (⟨#[13, 10]⟩ : ByteArray) ++ p ++ q).size = first.size + 2 + p.size + q.size := by rw [ByteArray.size_append, q2]
      have q4 : (first ++ (⟨#[13, 10]⟩ : ByteArray) ++ p ++ q ++ (⟨#[13, 10]⟩ : ByteArray)).size = first.size + 2 + p.size + q.size + 2 := by rw [ByteArray.size_append, q3]; rfl
      have x2 : ¬ 9223372036854775807 < first.size + 2 + p.size := by omega
      have x3 : ¬ 9223372036854775807 < first.size + 2 + p.size + q.size := by omega
      have x4 : ¬ 9223372036854775807 < first.size + 2 + p.size + q.size + 2 := by omega
      have x5 : ¬ 9223372036854775807 < first.size + 2 + p.size + q.size + 2 + b.size := by omega
      go_enter Tryz.func37, Tryz.ntmps37
      go_wp2_with fail
      refine hsh.mono ?_
      rintro e w1 ⟨rfl, hb1⟩
      have B1 : Hid (Below w.heap.size w w1) := hb1
      have T1 : Hid (Tab w1) := TB.out.low hb1
      clear hb1 hsh TB
      go_wp2_with fail
      refine (hin.out _ T1.out).mono ?_
      rintro e w2 ⟨rfl, hb2⟩
      have B2 : Hid (Below w.heap.size w w2) := past6 B1.out hb2
      clear hb2 hin T1 B1
      go_wp2_with fail
      refine (hs2.out _).mono ?_
      rintro e w3 ⟨rfl, hb3⟩
      have B3 : Hid (Below w.heap.size w w3) := pastA6 B2.out hb3
      clear hb3 hs2 B2
      go_wp2
      go_ret
      exact ⟨ret_strT HT.out, B3.out⟩
    · have d1 : decide (30 ≤ (l.length : Int)) = true := by simp; omega
      have HT : Hid ((⟨#[]⟩ : ByteArray) = msgA first l b true) := hM2 (by omega)
      generalize msgA first l b true = M at HT ⊢
      generalize (⟨(showL l).toArray⟩ : ByteArray) = p at hsh hz
      have q2 : (first ++ (⟨#[13, 10]⟩ : ByteArray) ++ p).size = first.size + 2 + p.size := by rw [ByteArray.size_append, q1]
      have x2 : ¬ 9223372036854775807 < first.size + 2 + p.size := by omega
      clear hM1 hM2 hll1
      go_enter Tryz.func37, Tryz.ntmps37
      go_wp2_with (go_at_call 87; refine hsh.mono ?_; rintro e w1 ⟨rfl, hb1⟩)
      go_ret
      exact ⟨ret_strT HT.out, hb1⟩
set_option maxHeartbeats 1000000 in
theorem implShRq (r : Rq) (v : Value) (w : World) (h : RqIn w v r) (ht : Tab w) :
    Calls Tryz.prog 9 #[rqV r v] w fun e w' => e = .returned (.string (shRq r)) ∧ Below w.heap.size w w' := by
  have hfs := h.1.1
  obtain ⟨a, cap, rfl, hcap⟩ := hfs
  clear hcap
  have HI : Hid (RqIn (w.alloc (.cells #[.string r.m, .string r.t, .slice a r.l.length cap, .string r.b] 26)) (.slice a r.l.length cap) r) := h.kept ((Below.refl _ w).alloc (Nat.le_refl _) _)
  have Q0 : Hid (RqB (w.alloc (.cells #[.string r.m, .string r.t, .slice a r.l.length cap, .string r.b] 26)) w.heap.size r (.slice a r.l.length cap)) := RqB.new w r _ _
  have B0 : Hid (Below w.heap.size w (w.alloc (.cells #[.string r.m, .string r.t, .slice a r.l.length cap, .string r.b] 26))) := (Below.refl _ w).alloc (Nat.le_refl _) _
  have hq := implRqOk r _ _ HI.out
  unfold rqV at hq ⊢
  have TB : Hid (Tab (w.alloc (.cells #[.string r.m, .string r.t, .slice a r.l.length cap, .string r.b] 26))) := ht.low ((Below.refl _ w).alloc (Nat.le_refl _) _)
  clear h ht
  cases hok : rqOk r with
  | false =>
    have H0 : Hid ((⟨#[]⟩ : ByteArray) = shRq r) := shRq_no hok
    rw [hok] at hq
    go_enter Tryz.func9, Tryz.ntmps9
    go_wp2_with (go_at_call 11; refine hq.mono ?_; rintro e w1 ⟨rfl, hb1⟩)
    go_ret
    exact ⟨ret_strT H0.out, past6 B0.out hb1⟩
  | true =>
    rw [hok] at hq
    obtain ⟨p1, p2, p3, p4⟩ := rqOk_parts hok
    have z1 := met_size p1
    have z2 := tar_size p2
    have e1 : (r.m ++ (⟨#[32]⟩ : ByteArray)).size = r.m.size + 1 := by rw [ByteArray.size_append]; rfl
    have e2 : (r.m ++ (⟨#[32]⟩ : ByteArray) ++ r.t).size = r.m.size + 1 + r.t.size := by rw [ByteArray.size_append, e1]
    have e3 : (r.m ++ (⟨#[32]⟩ : ByteArray) ++ r.t ++ (⟨#[32]⟩ : ByteArray)).size = r.m.size + 1 + r.t.size + 1 := by rw [ByteArray.size_append, e2]; rfl
    have e4 : lineQ r = r.m ++ (⟨#[32]⟩ : ByteArray) ++ r.t ++ (⟨#[32]⟩ : ByteArray) ++ (⟨#[72, 84, 84, 80, 47, 49, 46, 49]⟩ : ByteArray) := by
      refine ba_ext ?_
      unfold lineQ
      simp only [add_list]
      simp
    have e5 : (lineQ r).size = r.m.size + 1 + r.t.size + 9 := by rw [e4, ByteArray.size_append, e3]; rfl
    have x1 : ¬ 9223372036854775807 < r.m.size + 1 := by omega
    have x2 : ¬ 9223372036854775807 < r.m.size + 1 + r.t.size := by omega
    have x3 : ¬ 9223372036854775807 < r.m.size + 1 + r.t.size + 1 := by omega
    have x4 : ¬ 9223372036854775807 < r.m.size + 1 + r.t.size + 1 + 8 := by omega
    have hs : Hid (∀ W, Tab W → RqIn W (.slice a r.l.length cap) r → Calls Tryz.prog 37 #[.string (r.m ++ (⟨#[32]⟩ : ByteArray) ++ r.t ++ (⟨#[32]⟩ : ByteArray) ++ (⟨#[72, 84, 84, 80, 47, 49, 46, 49]⟩ : ByteArray)), .slice a r.l.length cap, .string r.b, .bool (!r.b.toList.isEmpty)] W fun e w' => e = .returned (.string (shRq r)) ∧ Below W.heap.size W w') := fun W hT hW => by
      have := implMsg (lineQ r) _ r.l r.b (decide (r.b.size ≠ 0)) W hW.1 p3 (by omega) p4 hT
      have hy := shRq_yes hok
      simp only [Bool.not_false, Bool.or_false, Bool.true_and] at hy
      rw [hy, e4] at this
      rw [void_emp]
      have e6 : decide (r.b.size ≠ 0) = !decide (r.b.size = 0) := by by_cases h : r.b.size = 0 <;> simp [h]
      rw [e6] at this
      exact this
    generalize shRq r = M at hs ⊢
    have hbe : r.b.toList.isEmpty = true → r.b.toList = [] := fun h => by simpa using h
    clear hok p1 p2 p3 e4 e5
    go_enter Tryz.func9, Tryz.ntmps9
    go_wp2_with fail
    refine hq.mono ?_
    rintro e w1 ⟨rfl, hb1⟩
    have I1 : Hid (RqIn w1 (.slice a r.l.length cap) r) := HI.out.kept hb1
    have Q1 : Hid (RqB w1 w.heap.size r (.slice a r.l.length cap)) := Q0.out.next hb1
    have B1 : Hid (Below w.heap.size w w1) := past6 B0.out hb1
    have c0 := Q1.out.c0
    have c1 := Q1.out.c1
    have c2 := Q1.out.c2
    have c3 := Q1.out.c3
    have T1 : Hid (Tab w1) := TB.out.low hb1
    clear HI Q0 B0 hb1 hq TB
    go_wp2_with (go_at_call 37; refine (hs.out _ T1.out I1.out).mono ?_; rintro e w2 ⟨rfl, hb2⟩)
    go_ret
    exact ⟨rfl, past6 B1.out hb2⟩

set_option maxHeartbeats 2000000 in
theorem implShRs (r : Rs) (v : Value) (w : World) (h : RsIn w v r) (ht : Tab w) :
    Calls Tryz.prog 22 #[rsV r v] w fun e w' => e = .returned (.string (shRs r)) ∧ Below w.heap.size w w' := by
  have hfs := h.1.1
  obtain ⟨a, cap, rfl, hcap⟩ := hfs
  clear hcap
  have HI : Hid (RsIn (w.alloc (.cells #[.int .i64 r.s, .slice a r.l.length cap, .string r.b] 39)) (.slice a r.l.length cap) r) := h.kept ((Below.refl _ w).alloc (Nat.le_refl _) _)
  have Q0 : Hid (RsB (w.alloc (.cells #[.int .i64 r.s, .slice a r.l.length cap, .string r.b] 39)) w.heap.size r (.slice a r.l.length cap)) := RsB.new w r _ _
  have B0 : Hid (Below w.heap.size w (w.alloc (.cells #[.int .i64 r.s, .slice a r.l.length cap, .string r.b] 39))) := (Below.refl _ w).alloc (Nat.le_refl _) _
  have hq := implRsOk r _ _ HI.out
  unfold rsV at hq ⊢
  have TB : Hid (Tab (w.alloc (.cells #[.int .i64 r.s, .slice a r.l.length cap, .string r.b] 39))) := ht.low ((Below.refl _ w).alloc (Nat.le_refl _) _)
  clear h ht
  cases hok : rsOk r with
  | false =>
    have H0 : Hid ((⟨#[]⟩ : ByteArray) = shRs r) := shRs_no hok
    rw [hok] at hq
    go_enter Tryz.func22, Tryz.ntmps22
    go_wp2_with (go_at_call 24; refine hq.mono ?_; rintro e w1 ⟨rfl, hb1⟩)
    go_ret
    exact ⟨ret_strT H0.out, past6 B0.out hb1⟩
  | true =>
    rw [hok] at hq
    obtain ⟨p1, p3, p4, p5⟩ := rsOk_parts hok
    obtain ⟨n, hn⟩ : ∃ n : Nat, r.s = (n : Int) := Int.eq_ofNat_of_zero_le (by omega)
    have hin : Hid (∀ W, Tab W → Calls Tryz.prog 74 #[.int .i64 r.s, .int .i64 10] W fun e w' => e = .returned (.string (decS r.s.toNat)) ∧ Below W.heap.size W w') := fun W hW => by
      have := implFmt n (by omega) W hW
      rw [hn, Int.toNat_natCast]
      exact this
    have hbr : Hid (∀ W, Calls Tryz.prog 75 #[.int .i64 r.s] W fun e w' => e = .returned (.bool (bareB r.s)) ∧ Below W.heap.size W w') := fun W => (implBare r.s W).mono (fun _ _ h => ⟨h.1, by rw [← h.2]; exact Below.refl _ _⟩)
    have hds := decS_size r.s.toNat
    have key : ∀ wd : ByteArray, wd.size = 2 → wordS r.s = wd → Hid (∀ W, Tab W → RsIn W (.slice a r.l.length cap) r → Calls Tryz.prog 37 #[.string ((⟨#[72, 84, 84, 80, 47, 49, 46, 49, 32]⟩ : ByteArray) ++ decS r.s.toNat ++ (⟨#[32]⟩ : ByteArray) ++ wd), .slice a r.l.length cap, .string r.b, .bool (!bareB r.s)] W fun e w' => e = .returned (.string (shRs r)) ∧ Below W.heap.size W w') := fun wd hwz hwd W hT hW => by
      have e0 : (lineR r.s).size ≤ 100000 := by
        unfold lineR
        rw [ByteArray.size_append, ByteArray.size_append, ByteArray.size_append, hwd, hwz]
        show 9 + (decS r.s.toNat).size + 1 + 2 ≤ 100000
        omega
      have := implMsg (lineR r.s) _ r.l r.b (!bareB r.s) W hW.1 p3 e0 p4 hT
      have hy := shRs_yes hok
      simp only [Bool.or_true, Bool.and_true] at hy
      rw [hy] at this
      unfold lineR at this
      rw [hwd] at this
      exact this
    have hw400 : (400 ≤ r.s → wordS r.s = ⟨#[110, 111]⟩) ∧ (¬ 400 ≤ r.s → wordS r.s = ⟨#[111, 107]⟩) := ⟨fun h => by unfold wordS; rw [if_pos h], fun h => by unfold wordS; rw [if_neg h]⟩
    generalize shRs r = M at key ⊢
    generalize decS r.s.toNat = ds at key hin hds
    generalize bareB r.s = br at key hbr
    obtain ⟨hds1, hds2⟩ := hds
    have e1 : ((⟨#[72, 84, 84, 80, 47, 49, 46, 49, 32]⟩ : ByteArray) ++ ds).size = 9 + ds.size := by rw [ByteArray.size_append]; rfl
    have e2 : ((⟨#[72, 84, 84, 80, 47, 49, 46, 49, 32]⟩ : ByteArray) ++ ds ++ (⟨#[32]⟩ : ByteArray)).size = 9 + ds.size + 1 := by rw [ByteArray.size_append, e1]; rfl
    have x1 : ¬ 9223372036854775807 < 9 + ds.size := by omega
    have x2 : ¬ 9223372036854775807 < 9 + ds.size + 1 := by omega
    have x3 : ¬ 9223372036854775807 < 9 + ds.size + 1 + 2 := by omega
    clear hok p1 p3 p5 hn
    by_cases h4 : 400 ≤ r.s
    · have hs := key _ rfl (hw400.1 h4)
      clear key hw400
      go_enter Tryz.func22, Tryz.ntmps22
      go_wp2_with fail
      refine hq.mono ?_
      rintro e w1 ⟨rfl, hb1⟩
      have I1 : Hid (RsIn w1 (.slice a r.l.length cap) r) := HI.out.kept hb1
      have Q1 : Hid (RsB w1 w.heap.size r (.slice a r.l.length cap)) := Q0.out.next hb1
      have B1 : Hid (Below w.heap.size w w1) := past6 B0.out hb1
      have T1 : Hid (Tab w1) := TB.out.low hb1
      clear HI Q0 B0 hb1 hq TB
      have a0 := Q1.out.c0
      go_wp2
      clear a0
      have k0 := cell_regrown Q1.out.c0
      have k1 := cell_regrown Q1.out.c1
      have k2 := cell_regrown Q1.out.c2
      have cI : ∀ d os, Calls Tryz.prog 74 #[.int .i64 r.s, .int .i64 10] (grow (redrawn w1 d) os) fun e w'' => e = .returned (.string ds) ∧ ∃ p : Regrown, w'' = grow (redrawn w1 p.d) p.os := fun d os => Calls.regrown_of (hin.out _ (T1.out.low (below_regrown w1 d os)))
      have cB : ∀ d os, Calls Tryz.prog 75 #[.int .i64 r.s] (grow (redrawn w1 d) os) fun e w'' => e = .returned (.bool br) ∧ ∃ p : Regrown, w'' = grow (redrawn w1 p.d) p.os := fun d os => Calls.regrown_of (hbr.out _)
      have cS := fun d os => Calls.regrown_of (hs.out _ (T1.out.low (below_regrown w1 d os)) (I1.out.kept (below_regrown w1 d os)))
      refine wp_region_quiet_below (by kernel_rfl) (by kernel_rfl) ?_
      repeat (quiet_step (first | exact cI _ _ | exact cB _ _ | exact cS _ _))
      refine wpQuiet_nil ?_
      intro _ hw'
      obtain ⟨⟨dq, osq⟩, hw''⟩ := hw'
      subst hw''
      go_wp2
      go_ret
      exact ⟨rfl, past6 B1.out (below_regrown w1 dq osq)⟩
    · have hs := key _ rfl (hw400.2 h4)
      clear key hw400
      go_enter Tryz.func22, Tryz.ntmps22
      go_wp2_with fail
      refine hq.mono ?_
      rintro e w1 ⟨rfl, hb1⟩
      have I1 : Hid (RsIn w1 (.slice a r.l.length cap) r) := HI.out.kept hb1
      have Q1 : Hid (RsB w1 w.heap.size r (.slice a r.l.length cap)) := Q0.out.next hb1
      have B1 : Hid (Below w.heap.size w w1) := past6 B0.out hb1
      have T1 : Hid (Tab w1) := TB.out.low hb1
      clear HI Q0 B0 hb1 hq TB
      have a0 := Q1.out.c0
      go_wp2
      clear a0
      have k0 := cell_regrown Q1.out.c0
      have k1 := cell_regrown Q1.out.c1
      have k2 := cell_regrown Q1.out.c2
      have cI : ∀ d os, Calls Tryz.prog 74 #[.int .i64 r.s, .int .i64 10] (grow (redrawn w1 d) os) fun e w'' => e = .returned (.string ds) ∧ ∃ p : Regrown, w'' = grow (redrawn w1 p.d) p.os := fun d os => Calls.regrown_of (hin.out _ (T1.out.low (below_regrown w1 d os)))
      have cB : ∀ d os, Calls Tryz.prog 75 #[.int .i64 r.s] (grow (redrawn w1 d) os) fun e w'' => e = .returned (.bool br) ∧ ∃ p : Regrown, w'' = grow (redrawn w1 p.d) p.os := fun d os => Calls.regrown_of (hbr.out _)
      have cS := fun d os => Calls.regrown_of (hs.out _ (T1.out.low (below_regrown w1 d os)) (I1.out.kept (below_regrown w1 d os)))
      refine wp_region_quiet_below (by kernel_rfl) (by kernel_rfl) ?_
      repeat (quiet_step (first | exact cI _ _ | exact cB _ _ | exact cS _ _))
      refine wpQuiet_nil ?_
      intro _ hw'
      obtain ⟨⟨dq, osq⟩, hw''⟩ := hw'
      subst hw''
      go_wp2
      go_ret
      exact ⟨rfl, past6 B1.out (below_regrown w1 dq osq)⟩
end Go.Proofs.YteibacmohplblaaGreatDoor
namespace Go.Proofs.YteibacmohplblaaGreatDoor
open Go

theorem gPowType : (Tryz.prog.globals[0]?).map (·.type) = some 162 := by kernel_rfl
theorem underPA : Tryz.prog.underlying 162 = some (.array 20 143) := by kernel_rfl
theorem underPU : Tryz.prog.underlying 143 = some (.int .u64) := by kernel_rfl
theorem cellsPA : Tryz.prog.cellsOf 162 = 20 := by kernel_rfl
theorem cellsPU : Tryz.prog.cellsOf 143 = 1 := by kernel_rfl
theorem pow_is : (Rows.laid_internal_strconv_uint64pow10 : DataW Unit) = Lib.tabData .u64 Lib.pow10Tab := rfl
theorem pow_reads {W : World} (h : Lib.VarReads Tryz.prog W "internal/strconv.uint64pow10" Rows.laid_internal_strconv_uint64pow10) : Tab W := by
  obtain ⟨g, t, cs, fuel, p, hg, ht, hv, hd⟩ := h
  obtain rfl := Option.some.inj (gPow.symm.trans hg)
  obtain rfl := Option.some.inj (gPowType.symm.trans ht)
  rw [pow_is] at hd
  unfold Tab Lib.TabIs
  rw [hv, ← Lib.cells_of_tab underPA underPU cellsPU cellsPA hd]
end Go.Proofs.YteibacmohplblaaGreatDoor
namespace Go.Proofs.YteibacmohplblaaGreatDoor
open Go
theorem requests_laid {W : World} (h : laidMetH Tryz.prog Rows.fnRequestsRow.laid W) : Tab W := by
  rw [MakeChecks.laidMetH_plain _ _ _ (by kernel_rfl)] at h
  exact pow_reads (Lib.laidMet.reads h (.tail _ (.tail _ (.head _))))
theorem responses_laid {W : World} (h : laidMetH Tryz.prog Rows.fnResponsesRow.laid W) : Tab W := by
  rw [MakeChecks.laidMetH_plain _ _ _ (by kernel_rfl)] at h
  exact pow_reads (Lib.laidMet.reads h (.tail _ (.tail _ (.head _))))
end Go.Proofs.YteibacmohplblaaGreatDoor
