/-
  The specification's ShowRequest and ShowResponse by their contracts.
-/
import Derived.Test.YtmgmphkncgochaaDoorMsgD
namespace Go.Proofs.YtmgmphkncgochaaDoor
open Go.RowKit Go.Sort
set_option linter.unusedVariables false

theorem met_size {s : ByteArray} (h : metB s = true) : s.size ≤ 64 := by
  unfold metB at h
  rw [Bool.and_eq_true] at h
  exact (tok_size h.2).2
theorem tar_size {s : ByteArray} (h : tarB s = true) : s.size ≤ 200 := by
  unfold tarB at h
  rw [Bool.and_eq_true] at h
  exact (of_decide_eq_true h.1).2
theorem shRq_no {r : Rq} (h : rqOk r = false) : (⟨#[]⟩ : ByteArray) = shRq r := by unfold shRq; rw [if_neg (by rw [h]; decide)]
theorem shRq_yes {r : Rq} (h : rqOk r = true) : msgA (lineQ r) r.l r.b (!false && (decide (r.b.size ≠ 0) || false)) = shRq r := by unfold shRq; rw [if_pos h]; simp
theorem shRs_no {r : Rs} (h : rsOk r = false) : (⟨#[]⟩ : ByteArray) = shRs r := by unfold shRs; rw [if_neg (by rw [h]; decide)]
theorem shRs_yes {r : Rs} (h : rsOk r = true) : msgA (lineR r.s) r.l r.b (!bareB r.s && (decide (r.b.size ≠ 0) || true)) = shRs r := by unfold shRs; rw [if_pos h]; simp
set_option maxHeartbeats 1000000 in
theorem specShRq (r : Rq) (v : Value) (w : World) (h : RqIn w v r) :
    Calls Tryd.prog 23 #[rqV r v] w fun e w' => e = .returned (.string (shRq r)) ∧ Below w.heap.size w w' := by
  have hfs := h.1.1
  obtain ⟨a, cap, rfl, hcap⟩ := hfs
  clear hcap
  have HI : Hid (RqIn (w.alloc (.cells #[.string r.m, .string r.t, .slice a r.l.length cap, .string r.b] 29)) (.slice a r.l.length cap) r) := h.kept ((Below.refl _ w).alloc (Nat.le_refl _) _)
  have Q0 : Hid (RqB (w.alloc (.cells #[.string r.m, .string r.t, .slice a r.l.length cap, .string r.b] 29)) w.heap.size r (.slice a r.l.length cap)) := RqB.new w r _ _
  have B0 : Hid (Below w.heap.size w (w.alloc (.cells #[.string r.m, .string r.t, .slice a r.l.length cap, .string r.b] 29))) := (Below.refl _ w).alloc (Nat.le_refl _) _
  have hq := specRqOk r _ _ HI.out
  unfold rqV at hq ⊢
  clear h
  cases hok : rqOk r with
  | false =>
    have H0 : Hid ((⟨#[]⟩ : ByteArray) = shRq r) := shRq_no hok
    rw [hok] at hq
    go_enter Tryd.func23, Tryd.ntmps23
    go_wp2_with (go_at_call 9; refine hq.mono ?_; rintro e w1 ⟨rfl, hb1⟩)
    go_ret
    exact ⟨ret_strT H0.out, past6 B0.out hb1⟩
  | true =>
    rw [hok] at hq
    obtain ⟨p1, p2, p3, p4⟩ := rqOk_parts hok
    have z1 := met_size p1
    have z2 := tar_size p2
    have e1 : (r.m ++ (⟨#[32]⟩ : ByteArray)).size = r.m.size + 1 := by rw [ByteArray.size_append]; rfl
    have e2 : (r.m ++ (⟨#[32]⟩ : ByteArray) ++ r.t).size = r.m.size + 1 + r.t.size := by rw [ByteArray.size_append, e1]
    have e3 : (r.m ++ (⟨#[32]⟩ : ByteArray) ++ r.t ++ (⟨#[32, 72, 84, 84, 80, 47, 49, 46, 49]⟩ : ByteArray)).size = r.m.size + 1 + r.t.size + 9 := by rw [ByteArray.size_append, e2]; rfl
    have x1 : ¬ 9223372036854775807 < r.m.size + 1 := by omega
    have x2 : ¬ 9223372036854775807 < r.m.size + 1 + r.t.size := by omega
    have x3 : ¬ 9223372036854775807 < r.m.size + 1 + r.t.size + 9 := by omega
    have hs : Hid (∀ W, RqIn W (.slice a r.l.length cap) r → Calls Tryd.prog 48 #[.string (r.m ++ (⟨#[32]⟩ : ByteArray) ++ r.t ++ (⟨#[32, 72, 84, 84, 80, 47, 49, 46, 49]⟩ : ByteArray)), .slice a r.l.length cap, .string r.b, .bool false, .bool false] W fun e w' => e = .returned (.string (shRq r)) ∧ Below W.heap.size W w') := fun W hW => by
      have := specMsg (lineQ r) _ r.l r.b false false W hW.1 p3 (by unfold lineQ; omega) p4
      rw [shRq_yes hok] at this
      exact this
    generalize shRq r = M at hs ⊢
    clear hok p1 p2 p3
    go_enter Tryd.func23, Tryd.ntmps23
    go_wp2_with fail
    refine hq.mono ?_
    rintro e w1 ⟨rfl, hb1⟩
    have I1 : Hid (RqIn w1 (.slice a r.l.length cap) r) := HI.out.kept hb1
    have Q1 : Hid (RqB w1 w.heap.size r (.slice a r.l.length cap)) := Q0.out.next hb1
    have B1 : Hid (Below w.heap.size w w1) := past6 B0.out hb1
    have c0 := Q1.out.c0
    have c1 := Q1.out.c1
    have c2 := Q1.out.c2
    have c3 := Q1.out.c3
    clear HI Q0 B0 hb1 hq
    go_wp2_with (go_at_call 48; refine (hs.out _ I1.out).mono ?_; rintro e w2 ⟨rfl, hb2⟩)
    go_ret
    exact ⟨rfl, past6 B1.out hb2⟩

set_option maxHeartbeats 2000000 in
theorem specShRs (r : Rs) (v : Value) (w : World) (h : RsIn w v r) :
    Calls Tryd.prog 25 #[rsV r v] w fun e w' => e = .returned (.string (shRs r)) ∧ Below w.heap.size w w' := by
  have hfs := h.1.1
  obtain ⟨a, cap, rfl, hcap⟩ := hfs
  clear hcap
  have HI : Hid (RsIn (w.alloc (.cells #[.int .i64 r.s, .slice a r.l.length cap, .string r.b] 38)) (.slice a r.l.length cap) r) := h.kept ((Below.refl _ w).alloc (Nat.le_refl _) _)
  have Q0 : Hid (RsB (w.alloc (.cells #[.int .i64 r.s, .slice a r.l.length cap, .string r.b] 38)) w.heap.size r (.slice a r.l.length cap)) := RsB.new w r _ _
  have B0 : Hid (Below w.heap.size w (w.alloc (.cells #[.int .i64 r.s, .slice a r.l.length cap, .string r.b] 38))) := (Below.refl _ w).alloc (Nat.le_refl _) _
  have hq := specRsOk r _ _ HI.out
  unfold rsV at hq ⊢
  clear h
  cases hok : rsOk r with
  | false =>
    have H0 : Hid ((⟨#[]⟩ : ByteArray) = shRs r) := shRs_no hok
    rw [hok] at hq
    go_enter Tryd.func25, Tryd.ntmps25
    go_wp2_with (go_at_call 14; refine hq.mono ?_; rintro e w1 ⟨rfl, hb1⟩)
    go_ret
    exact ⟨ret_strT H0.out, past6 B0.out hb1⟩
  | true =>
    rw [hok] at hq
    obtain ⟨p1, p3, p4, p5⟩ := rsOk_parts hok
    obtain ⟨n, hn⟩ : ∃ n : Nat, r.s = (n : Int) := Int.eq_ofNat_of_zero_le (by omega)
    have hin : Hid (∀ W, Calls Tryd.prog 50 #[.int .i64 r.s] W fun e w' => e = .returned (.string (decS r.s.toNat)) ∧ Below W.heap.size W w') := fun W => by
      have := specInt n W (by omega)
      rw [hn, Int.toNat_natCast]
      exact this
    have hbr : Hid (∀ W, Calls Tryd.prog 34 #[.int .i64 r.s] W fun e w' => e = .returned (.bool (bareB r.s)) ∧ Below W.heap.size W w') := fun W => (specBare r.s W).mono (fun _ _ h => ⟨h.1, by rw [← h.2]; exact Below.refl _ _⟩)
    have hds := decS_size r.s.toNat
    have key : ∀ wd : ByteArray, wd.size = 2 → wordS r.s = wd → Hid (∀ W, RsIn W (.slice a r.l.length cap) r → Calls Tryd.prog 48 #[.string ((⟨#[72, 84, 84, 80, 47, 49, 46, 49, 32]⟩ : ByteArray) ++ decS r.s.toNat ++ (⟨#[32]⟩ : ByteArray) ++ wd), .slice a r.l.length cap, .string r.b, .bool (bareB r.s), .bool true] W fun e w' => e = .returned (.string (shRs r)) ∧ Below W.heap.size W w') := fun wd hwz hwd W hW => by
      have e0 : (lineR r.s).size ≤ 100000 := by
        unfold lineR
        rw [ByteArray.size_append, ByteArray.size_append, ByteArray.size_append, hwd, hwz]
        show 9 + (decS r.s.toNat).size + 1 + 2 ≤ 100000
        omega
      have := specMsg (lineR r.s) _ r.l r.b (bareB r.s) true W hW.1 p3 e0 p4
      rw [shRs_yes hok] at this
      unfold lineR at this
      rw [hwd] at this
      exact this
    have hw400 : (400 ≤ r.s → wordS r.s = ⟨#[110, 111]⟩) ∧ (¬ 400 ≤ r.s → wordS r.s = ⟨#[111, 107]⟩) := ⟨fun h => by unfold wordS; rw [if_pos h], fun h => by unfold wordS; rw [if_neg h]⟩
    generalize shRs r = M at key ⊢
    generalize decS r.s.toNat = ds at key hin hds
    generalize bareB r.s = br at key hbr
    obtain ⟨hds1, hds2⟩ := hds
    have e1 : ((⟨#[72, 84, 84, 80, 47, 49, 46, 49, 32]⟩ : ByteArray) ++ ds).size = 9 + ds.size := by rw [ByteArray.size_append]; rfl
    have e2 : ((⟨#[72, 84, 84, 80, 47, 49, 46, 49, 32]⟩ : ByteArray) ++ ds ++ (⟨#[32]⟩ : ByteArray)).size = 9 + ds.size + 1 := by rw [ByteArray.size_append, e1]; rfl
    have x1 : ¬ 9223372036854775807 < 9 + ds.size := by omega
    have x2 : ¬ 9223372036854775807 < 9 + ds.size + 1 := by omega
    have x3 : ¬ 9223372036854775807 < 9 + ds.size + 1 + 2 := by omega
    clear hok p1 p3 p5 hn
    by_cases h4 : 400 ≤ r.s
    · have hs := key _ rfl (hw400.1 h4)
      clear key hw400
      go_enter Tryd.func25, Tryd.ntmps25
      go_wp2_with fail
      refine hq.mono ?_
      rintro e w1 ⟨rfl, hb1⟩
      have I1 : Hid (RsIn w1 (.slice a r.l.length cap) r) := HI.out.kept hb1
      have Q1 : Hid (RsB w1 w.heap.size r (.slice a r.l.length cap)) := Q0.out.next hb1
      have B1 : Hid (Below w.heap.size w w1) := past6 B0.out hb1
      clear HI Q0 B0 hb1 hq
      have a0 := Q1.out.c0
      go_wp2
      clear a0
      have k0 := cell_regrown Q1.out.c0
      have k1 := cell_regrown Q1.out.c1
      have k2 := cell_regrown Q1.out.c2
      have cI : ∀ d os, Calls Tryd.prog 50 #[.int .i64 r.s] (grow (redrawn w1 d) os) fun e w'' => e = .returned (.string ds) ∧ ∃ p : Regrown, w'' = grow (redrawn w1 p.d) p.os := fun d os => Calls.regrown_of (hin.out _)
      have cB : ∀ d os, Calls Tryd.prog 34 #[.int .i64 r.s] (grow (redrawn w1 d) os) fun e w'' => e = .returned (.bool br) ∧ ∃ p : Regrown, w'' = grow (redrawn w1 p.d) p.os := fun d os => Calls.regrown_of (hbr.out _)
      have cS := fun d os => Calls.regrown_of (hs.out _ (I1.out.kept (below_regrown w1 d os)))
      refine wp_region_quiet_below (by kernel_rfl) (by kernel_rfl) ?_
      repeat (quiet_step (first | exact cI _ _ | exact cB _ _ | exact cS _ _))
      refine wpQuiet_nil ?_
      intro _ hw'
      obtain ⟨⟨dq, osq⟩, hw''⟩ := hw'
      subst hw''
      go_wp2
      go_ret
      exact ⟨rfl, past6 B1.out (below_regrown w1 dq osq)⟩
    · have hs := key _ rfl (hw400.2 h4)
      clear key hw400
      go_enter Tryd.func25, Tryd.ntmps25
      go_wp2_with fail
      refine hq.mono ?_
      rintro e w1 ⟨rfl, hb1⟩
      have I1 : Hid (RsIn w1 (.slice a r.l.length cap) r) := HI.out.kept hb1
      have Q1 : Hid (RsB w1 w.heap.size r (.slice a r.l.length cap)) := Q0.out.next hb1
      have B1 : Hid (Below w.heap.size w w1) := past6 B0.out hb1
      clear HI Q0 B0 hb1 hq
      have a0 := Q1.out.c0
      go_wp2
      clear a0
      have k0 := cell_regrown Q1.out.c0
      have k1 := cell_regrown Q1.out.c1
      have k2 := cell_regrown Q1.out.c2
      have cI : ∀ d os, Calls Tryd.prog 50 #[.int .i64 r.s] (grow (redrawn w1 d) os) fun e w'' => e = .returned (.string ds) ∧ ∃ p : Regrown, w'' = grow (redrawn w1 p.d) p.os := fun d os => Calls.regrown_of (hin.out _)
      have cB : ∀ d os, Calls Tryd.prog 34 #[.int .i64 r.s] (grow (redrawn w1 d) os) fun e w'' => e = .returned (.bool br) ∧ ∃ p : Regrown, w'' = grow (redrawn w1 p.d) p.os := fun d os => Calls.regrown_of (hbr.out _)
      have cS := fun d os => Calls.regrown_of (hs.out _ (I1.out.kept (below_regrown w1 d os)))
      refine wp_region_quiet_below (by kernel_rfl) (by kernel_rfl) ?_
      repeat (quiet_step (first | exact cI _ _ | exact cB _ _ | exact cS _ _))
      refine wpQuiet_nil ?_
      intro _ hw'
      obtain ⟨⟨dq, osq⟩, hw''⟩ := hw'
      subst hw''
      go_wp2
      go_ret
      exact ⟨rfl, past6 B1.out (below_regrown w1 dq osq)⟩
end Go.Proofs.YtmgmphkncgochaaDoor
