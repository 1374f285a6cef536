/-
  The specification's ShowRequest and ShowResponse by their contracts.
  Drawn texts that are read as messages, and drawn fields of a framing: whatever the code, none long.
  Drawn fields of a framing; a picked number.
-/
import Derived.Test.YteibacmohplblaaGreatDoorG33
namespace Go.Proofs.YteibacmohplblaaGreatDoor
open Go.RowKit Go.Sort
set_option linter.unusedVariables false

theorem met_size {s : ByteArray} (h : metB s = true) : s.size ≤ 64 := by
  unfold metB at h
  rw [Bool.and_eq_true] at h
  exact (tok_size h.2).2
theorem tar_size {s : ByteArray} (h : tarB s = true) : s.size ≤ 200 := by
  unfold tarB at h
  rw [Bool.and_eq_true] at h
  exact (of_decide_eq_true h.1).2
theorem shRq_no {r : Rq} (h : rqOk r = false) : (⟨#[]⟩ : ByteArray) = shRq r := by unfold shRq; rw [if_neg (by rw [h]; decide)]
theorem shRq_yes {r : Rq} (h : rqOk r = true) : msgA (lineQ r) r.l r.b (!false && (decide (r.b.size ≠ 0) || false)) = shRq r := by unfold shRq; rw [if_pos h]; simp
theorem shRs_no {r : Rs} (h : rsOk r = false) : (⟨#[]⟩ : ByteArray) = shRs r := by unfold shRs; rw [if_neg (by rw [h]; decide)]
theorem shRs_yes {r : Rs} (h : rsOk r = true) : msgA (lineR r.s) r.l r.b (!bareB r.s && (decide (r.b.size ≠ 0) || true)) = shRs r := by unfold shRs; rw [if_pos h]; simp
set_option maxHeartbeats 1000000 in
theorem specShRq (r : Rq) (v : Value) (w : World) (h : RqIn w v r) :
    Calls Tryz.prog 10 #[rqV r v] w fun e w' => e = .returned (.string (shRq r)) ∧ Below w.heap.size w w' := by
  have hfs := h.1.1
  obtain ⟨a, cap, rfl, hcap⟩ := hfs
  clear hcap
  have HI : Hid (RqIn (w.alloc (.cells #[.string r.m, .string r.t, .slice a r.l.length cap, .string r.b] 26)) (.slice a r.l.length cap) r) := h.kept ((Below.refl _ w).alloc (Nat.le_refl _) _)
  have Q0 : Hid (RqB (w.alloc (.cells #[.string r.m, .string r.t, .slice a r.l.length cap, .string r.b] 26)) w.heap.size r (.slice a r.l.length cap)) := RqB.new w r _ _
  have B0 : Hid (Below w.heap.size w (w.alloc (.cells #[.string r.m, .string r.t, .slice a r.l.length cap, .string r.b] 26))) := (Below.refl _ w).alloc (Nat.le_refl _) _
  have hq := specRqOk r _ _ HI.out
  unfold rqV at hq ⊢
  clear h
  cases hok : rqOk r with
  | false =>
    have H0 : Hid ((⟨#[]⟩ : ByteArray) = shRq r) := shRq_no hok
    rw [hok] at hq
    go_enter Tryz.func10, Tryz.ntmps10
    go_wp2_with (go_at_call 12; refine hq.mono ?_; rintro e w1 ⟨rfl, hb1⟩)
    go_ret
    exact ⟨ret_strT H0.out, past6 B0.out hb1⟩
  | true =>
    rw [hok] at hq
    obtain ⟨p1, p2, p3, p4⟩ := rqOk_parts hok
    have z1 := met_size p1
    have z2 := tar_size p2
    have e1 : (r.m ++ (⟨#[32]⟩ : ByteArray)).size = r.m.size + 1 := by rw [ByteArray.size_append]; rfl
    have e2 : (r.m ++ (⟨#[32]⟩ : ByteArray) ++ r.t).size = r.m.size + 1 + r.t.size := by rw [ByteArray.size_append, e1]
    have e3 : (r.m ++ (⟨#[32]⟩ : ByteArray) ++ r.t ++ (⟨#[32, 72, 84, 84, 80, 47, 49, 46, 49]⟩ : ByteArray)).size = r.m.size + 1 + r.t.size + 9 := by rw [ByteArray.size_append, e2]; rfl
    have x1 : ¬ 9223372036854775807 < r.m.size + 1 := by omega
    have x2 : ¬ 9223372036854775807 < r.m.size + 1 + r.t.size := by omega
    have x3 : ¬ 9223372036854775807 < r.m.size + 1 + r.t.size + 9 := by omega
    have hs : Hid (∀ W, RqIn W (.slice a r.l.length cap) r → Calls Tryz.prog 38 #[.string (r.m ++ (⟨#[32]⟩ : ByteArray) ++ r.t ++ (⟨#[32, 72, 84, 84, 80, 47, 49, 46, 49]⟩ : ByteArray)), .slice a r.l.length cap, .string r.b, .bool false, .bool false] W fun e w' => e = .returned (.string (shRq r)) ∧ Below W.heap.size W w') := fun W hW => by
      have := specMsg (lineQ r) _ r.l r.b false false W hW.1 p3 (by unfold lineQ; omega) p4
      rw [shRq_yes hok] at this
      exact this
    generalize shRq r = M at hs ⊢
    clear hok p1 p2 p3
    go_enter Tryz.func10, Tryz.ntmps10
    go_wp2_with fail
    refine hq.mono ?_
    rintro e w1 ⟨rfl, hb1⟩
    have I1 : Hid (RqIn w1 (.slice a r.l.length cap) r) := HI.out.kept hb1
    have Q1 : Hid (RqB w1 w.heap.size r (.slice a r.l.length cap)) := Q0.out.next hb1
    have B1 : Hid (Below w.heap.size w w1) := past6 B0.out hb1
    have c0 := Q1.out.c0
    have c1 := Q1.out.c1
    have c2 := Q1.out.c2
    have c3 := Q1.out.c3
    clear HI Q0 B0 hb1 hq
    go_wp2_with (go_at_call 38; refine (hs.out _ I1.out).mono ?_; rintro e w2 ⟨rfl, hb2⟩)
    go_ret
    exact ⟨rfl, past6 B1.out hb2⟩

set_option maxHeartbeats 2000000 in
theorem specShRs (r : Rs) (v : Value) (w : World) (h : RsIn w v r) :
    Calls Tryz.prog 23 #[rsV r v] w fun e w' => e = .returned (.string (shRs r)) ∧ Below w.heap.size w w' := by
  have hfs := h.1.1
  obtain ⟨a, cap, rfl, hcap⟩ := hfs
  clear hcap
  have HI : Hid (RsIn (w.alloc (.cells #[.int .i64 r.s, .slice a r.l.length cap, .string r.b] 39)) (.slice a r.l.length cap) r) := h.kept ((Below.refl _ w).alloc (Nat.le_refl _) _)
  have Q0 : Hid (RsB (w.alloc (.cells #[.int .i64 r.s, .slice a r.l.length cap, .string r.b] 39)) w.heap.size r (.slice a r.l.length cap)) := RsB.new w r _ _
  have B0 : Hid (Below w.heap.size w (w.alloc (.cells #[.int .i64 r.s, .slice a r.l.length cap, .string r.b] 39))) := (Below.refl _ w).alloc (Nat.le_refl _) _
  have hq := specRsOk r _ _ HI.out
  unfold rsV at hq ⊢
  clear h
  cases hok : rsOk r with
  | false =>
    have H0 : Hid ((⟨#[]⟩ : ByteArray) = shRs r) := shRs_no hok
    rw [hok] at hq
    go_enter Tryz.func23, Tryz.ntmps23
    go_wp2_with (go_at_call 25; refine hq.mono ?_; rintro e w1 ⟨rfl, hb1⟩)
    go_ret
    exact ⟨ret_strT H0.out, past6 B0.out hb1⟩
  | true =>
    rw [hok] at hq
    obtain ⟨p1, p3, p4, p5⟩ := rsOk_parts hok
    obtain ⟨n, hn⟩ : ∃ n : Nat, r.s = (n : Int) := Int.eq_ofNat_of_zero_le (by omega)
    have hin : Hid (∀ W, Calls Tryz.prog 76 #[.int .i64 r.s] W fun e w' => e = .returned (.string (decS r.s.toNat)) ∧ Below W.heap.size W w') := fun W => by
      have := specInt n W (by omega)
      rw [hn, Int.toNat_natCast]
      exact this
    have hbr : Hid (∀ W, Calls Tryz.prog 77 #[.int .i64 r.s] W fun e w' => e = .returned (.bool (bareB r.s)) ∧ Below W.heap.size W w') := fun W => (specBare r.s W).mono (fun _ _ h => ⟨h.1, by rw [← h.2]; exact Below.refl _ _⟩)
    have hds := decS_size r.s.toNat
    have key : ∀ wd : ByteArray, wd.size = 2 → wordS r.s = wd → Hid (∀ W, RsIn W (.slice a r.l.length cap) r → Calls Tryz.prog 38 #[.string ((⟨#[72, 84, 84, 80, 47, 49, 46, 49, 32]⟩ : ByteArray) ++ decS r.s.toNat ++ (⟨#[32]⟩ : ByteArray) ++ wd), .slice a r.l.length cap, .string r.b, .bool (bareB r.s), .bool true] W fun e w' => e = .returned (.string (shRs r)) ∧ Below W.heap.size W w') := fun wd hwz hwd W hW => by
      have e0 : (lineR r.s).size ≤ 100000 := by
        unfold lineR
        rw [ByteArray.size_append, ByteArray.size_append, ByteArray.size_append, hwd, hwz]
        show 9 + (decS r.s.toNat).size + 1 + 2 ≤ 100000
        omega
      have := specMsg (lineR r.s) _ r.l r.b (bareB r.s) true W hW.1 p3 e0 p4
      rw [shRs_yes hok] at this
      unfold lineR at this
      rw [hwd] at this
      exact this
    have hw400 : (400 ≤ r.s → wordS r.s = ⟨#[110, 111]⟩) ∧ (¬ 400 ≤ r.s → wordS r.s = ⟨#[111, 107]⟩) := ⟨fun h => by unfold wordS; rw [if_pos h], fun h => by unfold wordS; rw [if_neg h]⟩
    generalize shRs r = M at key ⊢
    generalize decS r.s.toNat = ds at key hin hds
    generalize bareB r.s = br at key hbr
    obtain ⟨hds1, hds2⟩ := hds
    have e1 : ((⟨#[72, 84, 84, 80, 47, 49, 46, 49, 32]⟩ : ByteArray) ++ ds).size = 9 + ds.size := by rw [ByteArray.size_append]; rfl
    have e2 : ((⟨#[72, 84, 84, 80, 47, 49, 46, 49, 32]⟩ : ByteArray) ++ ds ++ (⟨#[32]⟩ : ByteArray)).size = 9 + ds.size + 1 := by rw [ByteArray.size_append, e1]; rfl
    have x1 : ¬ 9223372036854775807 < 9 + ds.size := by omega
    have x2 : ¬ 9223372036854775807 < 9 + ds.size + 1 := by omega
    have x3 : ¬ 9223372036854775807 < 9 + ds.size + 1 + 2 := by omega
    clear hok p1 p3 p5 hn
    by_cases h4 : 400 ≤ r.s
    · have hs := key _ rfl (hw400.1 h4)
      clear key hw400
      go_enter Tryz.func23, Tryz.ntmps23
      go_wp2_with fail
      refine hq.mono ?_
      rintro e w1 ⟨rfl, hb1⟩
      have I1 : Hid (RsIn w1 (.slice a r.l.length cap) r) := HI.out.kept hb1
      have Q1 : Hid (RsB w1 w.heap.size r (.slice a r.l.length cap)) := Q0.out.next hb1
      have B1 : Hid (Below w.heap.size w w1) := past6 B0.out hb1
      clear HI Q0 B0 hb1 hq
      have a0 := Q1.out.c0
      go_wp2
      clear a0
      have k0 := cell_regrown Q1.out.c0
      have k1 := cell_regrown Q1.out.c1
      have k2 := cell_regrown Q1.out.c2
      have cI : ∀ d os, Calls Tryz.prog 76 #[.int .i64 r.s] (grow (redrawn w1 d) os) fun e w'' => e = .returned (.string ds) ∧ ∃ p : Regrown, w'' = grow (redrawn w1 p.d) p.os := fun d os => Calls.regrown_of (hin.out _)
      have cB : ∀ d os, Calls Tryz.prog 77 #[.int .i64 r.s] (grow (redrawn w1 d) os) fun e w'' => e = .returned (.bool br) ∧ ∃ p : Regrown, w'' = grow (redrawn w1 p.d) p.os := fun d os => Calls.regrown_of (hbr.out _)
      have cS := fun d os => Calls.regrown_of (hs.out _ (I1.out.kept (below_regrown w1 d os)))
      refine wp_region_quiet_below (by kernel_rfl) (by kernel_rfl) ?_
      repeat (quiet_step (first | exact cI _ _ | exact cB _ _ | exact cS _ _))
      refine wpQuiet_nil ?_
      intro _ hw'
      obtain ⟨⟨dq, osq⟩, hw''⟩ := hw'
      subst hw''
      go_wp2
      go_ret
      exact ⟨rfl, past6 B1.out (below_regrown w1 dq osq)⟩
    · have hs := key _ rfl (hw400.2 h4)
      clear key hw400
      go_enter Tryz.func23, Tryz.ntmps23
      go_wp2_with fail
      refine hq.mono ?_
      rintro e w1 ⟨rfl, hb1⟩
      have I1 : Hid (RsIn w1 (.slice a r.l.length cap) r) := HI.out.kept hb1
      have Q1 : Hid (RsB w1 w.heap.size r (.slice a r.l.length cap)) := Q0.out.next hb1
      have B1 : Hid (Below w.heap.size w w1) := past6 B0.out hb1
      clear HI Q0 B0 hb1 hq
      have a0 := Q1.out.c0
      go_wp2
      clear a0
      have k0 := cell_regrown Q1.out.c0
      have k1 := cell_regrown Q1.out.c1
      have k2 := cell_regrown Q1.out.c2
      have cI : ∀ d os, Calls Tryz.prog 76 #[.int .i64 r.s] (grow (redrawn w1 d) os) fun e w'' => e = .returned (.string ds) ∧ ∃ p : Regrown, w'' = grow (redrawn w1 p.d) p.os := fun d os => Calls.regrown_of (hin.out _)
      have cB : ∀ d os, Calls Tryz.prog 77 #[.int .i64 r.s] (grow (redrawn w1 d) os) fun e w'' => e = .returned (.bool br) ∧ ∃ p : Regrown, w'' = grow (redrawn w1 p.d) p.os := fun d os => Calls.regrown_of (hbr.out _)
      have cS := fun d os => Calls.regrown_of (hs.out _ (I1.out.kept (below_regrown w1 d os)))
      refine wp_region_quiet_below (by kernel_rfl) (by kernel_rfl) ?_
      repeat (quiet_step (first | exact cI _ _ | exact cB _ _ | exact cS _ _))
      refine wpQuiet_nil ?_
      intro _ hw'
      obtain ⟨⟨dq, osq⟩, hw''⟩ := hw'
      subst hw''
      go_wp2
      go_ret
      exact ⟨rfl, past6 B1.out (below_regrown w1 dq osq)⟩
end Go.Proofs.YteibacmohplblaaGreatDoor
namespace Go.Proofs.YteibacmohplblaaGreatDoor
open Go.RowKit Go.Sort
set_option linter.unusedVariables false

theorem OwnsF.solidU {w : World} {B : Nat} {v : Value} {l : List Fl} (h : OwnsF w B v l) : Solid v := by
  rcases h.2 with ⟨h0, _⟩ | ⟨g, cap, cur, hv, _⟩
  · rw [h0]; intro n c e; injection e with _ _ e; exact e.symm
  · rw [hv]; intro n c e; injection e with e _ _; cases e
theorem OwnsF.fitsU {w : World} {B : Nat} {v : Value} {l : List Fl} (h : OwnsF w B v l) (hs : SmallG l) : Fits w v l := ⟨h.fls, by have := hs.sz; omega, by have := hs.1; omega, h.solidU⟩
theorem SmallG.showL {l : List Fl} (h : SmallG l) : (Go.Proofs.YteibacmohplblaaGreatDoor.showL l).length ≤ 1760 := by
  have : ∀ (l : List Fl), (∀ f ∈ l, f.1.size ≤ 20 ∧ f.2.size ≤ 20) → (Go.Proofs.YteibacmohplblaaGreatDoor.showL l).length ≤ 44 * l.length := by
    intro l
    induction l with
    | nil => intro _; exact Nat.zero_le _
    | cons f l ih =>
      intro h
      have h1 := h f (by simp)
      have h2 := ih fun g hg => h g (by simp [hg])
      have e : Go.Proofs.YteibacmohplblaaGreatDoor.showL (f :: l) = showF f ++ Go.Proofs.YteibacmohplblaaGreatDoor.showL l := by simp [Go.Proofs.YteibacmohplblaaGreatDoor.showL]
      rw [e, List.length_append, List.length_cons]
      have e2 : (showF f).length = f.1.size + f.2.size + 4 := by unfold showF; simp; omega
      omega
  have h2 := this l h.2
  have := h.1
  omega
theorem SmallG.showA {l : List Fl} (h : SmallG l) : (Go.Proofs.YteibacmohplblaaGreatDoor.showA l).size ≤ 1760 := by
  unfold Go.Proofs.YteibacmohplblaaGreatDoor.showA
  split
  · show (Go.Proofs.YteibacmohplblaaGreatDoor.showL l).toArray.size ≤ 1760
    simp
    exact h.showL
  · exact Nat.zero_le _
theorem msgA_small {first : ByteArray} {l : List Fl} {b : ByteArray} {tell : Bool} (hf : first.size ≤ 300) (hl : SmallG l) (hb : b.size ≤ 4100) : (msgA first l b tell).size ≤ 7000 := by
  unfold msgA
  split
  · show (msgL first.data.toList (addL l b tell) b).toArray.size ≤ 7000
    have h1 : (Go.Proofs.YteibacmohplblaaGreatDoor.showL (addL l b tell)).length ≤ 1760 + 27 := by
      cases tell with
      | false => have := hl.showL; rw [addL_f]; omega
      | true =>
        have e : Go.Proofs.YteibacmohplblaaGreatDoor.showL (l ++ [(clS, decS b.size)]) = Go.Proofs.YteibacmohplblaaGreatDoor.showL l ++ showF (clS, decS b.size) := by simp [Go.Proofs.YteibacmohplblaaGreatDoor.showL]
        have e2 : (showF (clS, decS b.size)).length = clS.size + (decS b.size).size + 4 := by unfold showF; simp; omega
        have e3 : clS.size = 14 := rfl
        have := hl.showL
        have := decS_size b.size
        rw [addL_t, e, List.length_append]
        omega
    have h2 : first.data.toList.length = first.size := by simp
    have h3 : b.data.toList.length = b.size := by simp
    unfold msgL
    rw [List.size_toArray]
    simp only [List.length_append, List.length_cons, List.length_nil]
    omega
  · exact Nat.zero_le _
theorem shRq_small {r : Rq} (h : SmallQ r) : (shRq r).size ≤ 7000 := by
  obtain ⟨h1, h2, h3, h4⟩ := h
  unfold shRq
  split
  · refine msgA_small ?_ h3 h4
    unfold lineQ
    rw [ByteArray.size_append, ByteArray.size_append, ByteArray.size_append]
    show r.m.size + 1 + r.t.size + 9 ≤ 300
    omega
  · exact Nat.zero_le _
theorem shRs_small {r : Rs} (h : SmallS r) : (shRs r).size ≤ 7000 := by
  obtain ⟨h3, h4⟩ := h
  unfold shRs
  split
  · refine msgA_small ?_ h3 h4
    unfold lineR
    have := decS_size r.s.toNat
    have hw : (wordS r.s).size = 2 := by unfold wordS; split <;> rfl
    rw [ByteArray.size_append, ByteArray.size_append, ByteArray.size_append, hw]
    show 9 + (decS r.s.toNat).size + 1 + 2 ≤ 300
    omega
  · exact Nat.zero_le _

set_option maxHeartbeats 2000000 in
theorem drawTail (b : Nat) (sa : Option Addr) (sl sc : Nat) (first : ByteArray) (hf : first.size ≤ 100) (w : World) (hc : Cur w b sa sl sc) :
    Calls Tryz.prog 58 #[.pointer (some ⟨b, 0, none⟩), .string first] w fun e w' => ∃ t : ByteArray, e = .returned (.string t) ∧ t.size ≤ 8500 ∧ Cur w' b sa sl sc ∧ Beside b w w' := by
  go_enter Tryz.func58, Tryz.ntmps58
  go_wp2_with fail
  refine (l4Draw b sa sl sc w hc).mono ?_
  rintro e w1 ⟨⟨u, l, rfl, ho1, hsm⟩, hc1, hb1⟩
  have hF := ho1.fls
  obtain ⟨A5, cap5, rfl, _⟩ := ho1.form
  go_wp2_with fail
  refine (specShow _ l w1 hF (by have := hsm.sz; omega)).mono ?_
  rintro e w2 ⟨rfl, hb2⟩
  have hz := hsm.more.showA
  generalize showA l = s at hz ⊢
  have hc2 := hc1.kept hb2 hc1.2.2.1
  have hB2 := hb1.below hb2
  clear ho1 hF hc1 hb1 hb2 hc
  go_wp2_with fail
  refine (l1Below b sa sl sc 3 (by decide) (by decide) w2 hc2).mono ?_
  rintro e w3 ⟨z, rfl, hz0, hz1, hc3, hb3⟩
  have hB3 := hB2.trans hb3
  have q1 : (first ++ s).size = first.size + s.size := ByteArray.size_append
  have x1 : ¬ 9223372036854775807 < first.size + s.size := by omega
  clear hB2 hb3 hc2
  rcases (show z = 0 ∨ z = 1 ∨ z = 2 by omega) with rfl | rfl | rfl
  · have q2 : (first ++ s ++ (⟨#[84, 114, 97, 110, 115, 102, 101, 114, 45, 69, 110, 99, 111, 100, 105, 110, 103, 58, 32, 99, 104, 117, 110, 107, 101, 100, 13, 10, 13, 10]⟩ : ByteArray)).size = first.size + s.size + 30 := by rw [ByteArray.size_append, q1]; rfl
    have x2 : ¬ 9223372036854775807 < first.size + s.size + 30 := by omega
    go_wp2_with fail
    refine (l5Text b sa sl sc w3 hc3).mono ?_
    rintro e w4 ⟨t, rfl, ht, hc4, hb4⟩
    have q3 : (first ++ s ++ (⟨#[84, 114, 97, 110, 115, 102, 101, 114, 45, 69, 110, 99, 111, 100, 105, 110, 103, 58, 32, 99, 104, 117, 110, 107, 101, 100, 13, 10, 13, 10]⟩ : ByteArray) ++ t).size = first.size + s.size + 30 + t.size := by rw [ByteArray.size_append, q2]
    have x3 : ¬ 9223372036854775807 < first.size + s.size + 30 + t.size := by omega
    go_wp2
    go_ret
    exact ⟨_, rfl, by rw [q3]; omega, hc4, hB3.trans hb4⟩
  · have q2 : (first ++ s ++ (⟨#[99, 111, 110, 116, 101, 110, 116, 45, 108, 101, 110, 103, 116, 104, 58, 32, 51, 13, 10, 13, 10, 97, 98, 99, 100]⟩ : ByteArray)).size = first.size + s.size + 25 := by rw [ByteArray.size_append, q1]; rfl
    have x2 : ¬ 9223372036854775807 < first.size + s.size + 25 := by omega
    go_wp2
    go_ret
    exact ⟨_, rfl, by rw [q2]; omega, hc3, hB3⟩
  · have q2 : (first ++ s ++ (⟨#[13, 10, 97, 98]⟩ : ByteArray)).size = first.size + s.size + 4 := by rw [ByteArray.size_append, q1]; rfl
    have x2 : ¬ 9223372036854775807 < first.size + s.size + 4 := by omega
    go_wp2
    go_ret
    exact ⟨_, rfl, by rw [q2]; omega, hc3, hB3⟩

set_option maxHeartbeats 2000000 in
theorem drawRdQ (sa : Option Addr) (sl sc : Nat) (w : World) (hc : Code8 w w.heap.size sa sl) (hl : sl ≤ 4096) :
    Calls Tryz.prog 16 #[.slice sa sl sc] w fun e w' => ∃ t : ByteArray, e = .returned (.string t) ∧ t.size ≤ 9000 ∧ Below w.heap.size w w' := by
  go_enter Tryz.func16, Tryz.ntmps16
  go_wp2_with fail
  refine (l1New sa sl sc w hc hl).mono ?_
  rintro e w1 ⟨rfl, hc1, hb1⟩
  go_wp2_with fail
  refine (l6DrawQ w.heap.size sa sl sc w1 hc1).mono ?_
  rintro e w2 ⟨⟨r, u, rfl, ho2, hsm⟩, hc2, hb2⟩
  have hI : RqIn w2 u r := ⟨ho2.fitsU hsm.2.2.1, by have := hsm.1; omega, by have := hsm.2.1; omega, by have := hsm.2.2.2; omega⟩
  have hz := shRq_small hsm
  have hsp := specShRq r u w2 hI
  unfold rqV at hsp ⊢
  generalize shRq r = s at hsp hz
  obtain ⟨A5, cap5, rfl, _⟩ := ho2.form
  go_wp2_with fail
  refine hsp.mono ?_
  rintro e w3 ⟨rfl, hb3⟩
  have hc3 := hc2.kept hb3 hc2.2.2.1
  have hB3 := hb2.below hb3
  clear hsp hI ho2 hc2 hb2 hb3 hc
  go_wp2_with fail
  refine (l1DrawText w.heap.size sa sl sc ⟨#[71, 69, 32]⟩ 3 (by decide) (by decide) (by omega) w3 hc3).mono ?_
  rintro e w4 ⟨t, rfl, ht, hc4, hb4⟩
  have hB4 := hB3.trans hb4
  have q1 : (s ++ t).size = s.size + t.size := ByteArray.size_append
  have x1 : ¬ 9223372036854775807 < s.size + t.size := by omega
  clear hB3 hb4 hc3
  go_wp2_with fail
  refine (l1Once w.heap.size sa sl sc 2 (by decide) (by decide) w4 hc4).mono ?_
  rintro e w5 ⟨t1, rfl, hc5, hb5⟩
  have hB5 := hB4.trans hb5
  have hqz : (s ++ t).size ≤ 8500 := by omega
  generalize s ++ t = s5 at hqz ⊢
  clear hB4 hb5 hc4 q1 x1
  cases t1 with
  | false =>
    go_wp2_with fail
    refine (l1Once w.heap.size sa sl sc 3 (by decide) (by decide) w5 hc5).mono ?_
    rintro e v1 ⟨t2, rfl, hcv, hbv⟩
    have hBv := hB5.trans hbv
    cases t2 with
    | false =>
      go_wp2
      go_ret
      exact ⟨_, rfl, by omega, hb1.trans (hBv.low (Nat.le_refl _) hb1.size)⟩
    | true =>
      go_wp2_with fail
      refine (l1Bend w.heap.size sa sl sc s5 ⟨#[97, 58, 32, 13, 10, 49]⟩ (by omega) (by decide) (by decide) v1 hcv).mono ?_
      rintro e v2 ⟨t, rfl, ht, hc9, hb9⟩
      go_wp2
      go_ret
      exact ⟨_, rfl, by omega, hb1.trans ((hBv.trans hb9).low (Nat.le_refl _) hb1.size)⟩
  | true =>
    go_wp2_with fail
    refine (drawTail w.heap.size sa sl sc ⟨#[71, 69, 84, 32, 47, 97, 32, 72, 84, 84, 80, 47, 49, 46, 49, 13, 10]⟩ (by decide) w5 hc5).mono ?_
    rintro e w6 ⟨s6, rfl, h6, hc6, hb6⟩
    have hB6 := hB5.trans hb6
    go_wp2_with fail
    refine (l1Once w.heap.size sa sl sc 3 (by decide) (by decide) w6 hc6).mono ?_
    rintro e v1 ⟨t2, rfl, hcv, hbv⟩
    have hBv := hB6.trans hbv
    cases t2 with
    | false =>
      go_wp2
      go_ret
      exact ⟨_, rfl, by omega, hb1.trans (hBv.low (Nat.le_refl _) hb1.size)⟩
    | true =>
      go_wp2_with fail
      refine (l1Bend w.heap.size sa sl sc s6 ⟨#[97, 58, 32, 13, 10, 49]⟩ (by omega) (by decide) (by decide) v1 hcv).mono ?_
      rintro e v2 ⟨t, rfl, ht, hc9, hb9⟩
      go_wp2
      go_ret
      exact ⟨_, rfl, by omega, hb1.trans ((hBv.trans hb9).low (Nat.le_refl _) hb1.size)⟩

def tabR : Array Value := #[.string ⟨#[72, 84, 84, 80, 47, 49, 46, 49, 32, 50, 48, 48, 32, 111, 107, 13, 10]⟩, .string ⟨#[72, 84, 84, 80, 47, 49, 46, 49, 32, 51, 48, 52, 32, 111, 107, 13, 10]⟩, .string ⟨#[72, 84, 84, 80, 47, 49, 46, 49, 32, 52, 48, 52, 32, 88, 13, 10]⟩]
theorem tabR_at (x : Nat) (h : x < 3) : ∃ s : ByteArray, tabR[x]? = some (.string s) ∧ s.size ≤ 20 := by
  rcases (show x = 0 ∨ x = 1 ∨ x = 2 by omega) with rfl | rfl | rfl <;> exact ⟨_, rfl, by decide⟩

set_option maxHeartbeats 2000000 in
theorem drawRdS (sa : Option Addr) (sl sc : Nat) (w : World) (hc : Code8 w w.heap.size sa sl) (hl : sl ≤ 4096) :
    Calls Tryz.prog 28 #[.slice sa sl sc] w fun e w' => ∃ t : ByteArray, e = .returned (.string t) ∧ t.size ≤ 9000 ∧ Below w.heap.size w w' := by
  go_enter Tryz.func28, Tryz.ntmps28
  go_wp2_with fail
  refine (l1New sa sl sc w hc hl).mono ?_
  rintro e w1 ⟨rfl, hc1, hb1⟩
  go_wp2_with fail
  refine (l6DrawS w.heap.size sa sl sc w1 hc1).mono ?_
  rintro e w2 ⟨⟨r, u, rfl, ho2, hsm⟩, hc2, hb2⟩
  have hI : RsIn w2 u r := ⟨ho2.fitsU hsm.1, by have := hsm.2; omega⟩
  have hz := shRs_small hsm
  have hsp := specShRs r u w2 hI
  unfold rsV at hsp ⊢
  generalize shRs r = s at hsp hz
  obtain ⟨A5, cap5, rfl, _⟩ := ho2.form
  go_wp2_with fail
  refine hsp.mono ?_
  rintro e w3 ⟨rfl, hb3⟩
  have hc3 := hc2.kept hb3 hc2.2.2.1
  have hB3 := hb2.below hb3
  clear hsp hI ho2 hc2 hb2 hb3 hc
  go_wp2_with fail
  refine (l1DrawText w.heap.size sa sl sc ⟨#[72, 84, 32]⟩ 3 (by decide) (by decide) (by omega) w3 hc3).mono ?_
  rintro e w4 ⟨t, rfl, ht, hc4, hb4⟩
  have hB4 := hB3.trans hb4
  have q1 : (s ++ t).size = s.size + t.size := ByteArray.size_append
  have x1 : ¬ 9223372036854775807 < s.size + t.size := by omega
  clear hB3 hb4 hc3
  go_wp2_with fail
  refine (l1Once w.heap.size sa sl sc 2 (by decide) (by decide) w4 hc4).mono ?_
  rintro e w5 ⟨t1, rfl, hc5, hb5⟩
  have hB5 := hB4.trans hb5
  have hqz : (s ++ t).size ≤ 8500 := by omega
  generalize s ++ t = s5 at hqz ⊢
  clear hB4 hb5 hc4 q1 x1
  cases t1 with
  | false =>
    go_wp2_with fail
    refine (l1Once w.heap.size sa sl sc 3 (by decide) (by decide) w5 hc5).mono ?_
    rintro e v1 ⟨t2, rfl, hcv, hbv⟩
    have hBv := hB5.trans hbv
    cases t2 with
    | false =>
      go_wp2
      go_ret
      exact ⟨_, rfl, by omega, hb1.trans (hBv.low (Nat.le_refl _) hb1.size)⟩
    | true =>
      go_wp2_with fail
      refine (l1Bend w.heap.size sa sl sc s5 ⟨#[97, 58, 32, 13, 10, 49]⟩ (by omega) (by decide) (by decide) v1 hcv).mono ?_
      rintro e v2 ⟨t, rfl, ht, hc9, hb9⟩
      go_wp2
      go_ret
      exact ⟨_, rfl, by omega, hb1.trans ((hBv.trans hb9).low (Nat.le_refl _) hb1.size)⟩
  | true =>
    have hba := (Below.refl w5.heap.size w5).alloc (Nat.le_refl _) (.cells tabR 9)
    have ta := heap_alloc_new w5 (.cells tabR 9)
    go_wp2_with fail
    refine (l1Below w.heap.size sa sl sc 3 (by decide) (by decide) (w5.alloc (.cells tabR 9)) (hc5.kept hba hc5.2.2.1)).mono ?_
    rintro e w6 ⟨z, rfl, hw0, hw1, hc6, hb6⟩
    obtain ⟨k, rfl⟩ : ∃ k : Nat, z = k := ⟨z.toNat, by omega⟩
    have hlt5 : w.heap.size < w5.heap.size := hc5.2.2.1
    have ta6 := hb6.at (by omega) ta
    obtain ⟨f, hf, hfz⟩ := tabR_at k (by omega)
    have cs : w6.cell? ⟨w5.heap.size, k, none⟩ = some (.string f) := by rw [cell_of_row w6 _ k _ _ _ ta6]; exact hf
    have hB6' := (hB5.below hba).trans hb6
    clear ta ta6 hba hb6 hf
    go_wp2_with fail
    refine (drawTail w.heap.size sa sl sc f (by omega) w6 hc6).mono ?_
    rintro e w7 ⟨s7, rfl, h7, hc7, hb7⟩
    have hB7 := hB6'.trans hb7
    go_wp2_with fail
    refine (l1Once w.heap.size sa sl sc 3 (by decide) (by decide) w7 hc7).mono ?_
    rintro e v1 ⟨t2, rfl, hcv, hbv⟩
    have hBv := hB7.trans hbv
    cases t2 with
    | false =>
      go_wp2
      go_ret
      exact ⟨_, rfl, by omega, hb1.trans (hBv.low (Nat.le_refl _) hb1.size)⟩
    | true =>
      go_wp2_with fail
      refine (l1Bend w.heap.size sa sl sc s7 ⟨#[97, 58, 32, 13, 10, 49]⟩ (by omega) (by decide) (by decide) v1 hcv).mono ?_
      rintro e v2 ⟨t, rfl, ht, hc9, hb9⟩
      go_wp2
      go_ret
      exact ⟨_, rfl, by omega, hb1.trans ((hBv.trans hb9).low (Nat.le_refl _) hb1.size)⟩
end Go.Proofs.YteibacmohplblaaGreatDoor
namespace Go.Proofs.YteibacmohplblaaGreatDoor
open Go.RowKit Go.Sort
set_option linter.unusedVariables false

def tabFr : Array Value := #[.string ⟨#[67, 111, 110, 116, 101, 110, 116, 45, 76, 101, 110, 103, 116, 104]⟩, .string ⟨#[53]⟩, .string ⟨#[99, 111, 110, 116, 101, 110, 116, 45, 108, 101, 110, 103, 116, 104]⟩, .string ⟨#[52, 48, 48, 49]⟩, .string ⟨#[84, 114, 97, 110, 115, 102, 101, 114, 45, 69, 110, 99, 111, 100, 105, 110, 103]⟩, .string ⟨#[67, 104, 117, 110, 107, 101, 100]⟩, .string ⟨#[116, 114, 97, 110, 115, 102, 101, 114, 45, 101, 110, 99, 111, 100, 105, 110, 103]⟩, .string ⟨#[103, 122, 105, 112]⟩, .string ⟨#[99, 111, 110, 116, 101, 110, 116, 45, 108, 101, 110, 103, 116, 104]⟩, .string ⟨#[45, 49]⟩, .string ⟨#[99, 111, 110, 116, 101, 110, 116, 45, 108, 101, 110, 103, 116, 104]⟩, .string ⟨#[48]⟩]
theorem tabFr_at (k : Nat) (h : k < 6) : ∃ f : Fl, tabFr[k * 2]? = some (.string f.1) ∧ tabFr[k * 2 + 1]? = some (.string f.2) ∧ f.1.size ≤ 20 ∧ f.2.size ≤ 20 := by
  rcases (show k = 0 ∨ k = 1 ∨ k = 2 ∨ k = 3 ∨ k = 4 ∨ k = 5 by omega) with rfl | rfl | rfl | rfl | rfl | rfl <;> exact ⟨(_, _), rfl, rfl, by decide, by decide⟩
set_option maxHeartbeats 2000000 in
theorem drawFrm (sa : Option Addr) (sl sc : Nat) (w : World) (hc : Code8 w w.heap.size sa sl) (hl : sl ≤ 4096) :
    Calls Tryz.prog 18 #[.slice sa sl sc] w fun e w' => (∃ u l, e = .returned u ∧ OwnsF w' w.heap.size u l ∧ SmallG l) ∧ Below w.heap.size w w' := by
  go_enter Tryz.func18, Tryz.ntmps18
  go_wp2_with fail
  refine (l1New sa sl sc w hc hl).mono ?_
  rintro e w1 ⟨rfl, hc1, hb1⟩
  go_wp2_with fail
  refine (l4Draw w.heap.size sa sl sc w1 hc1).mono ?_
  rintro e w2 ⟨⟨u, l, rfl, ho2, hsm⟩, hc2, hb2⟩
  have hz1 : w.heap.size < w1.heap.size := hc1.2.2.1
  go_wp2_with fail
  refine (l1Below w.heap.size sa sl sc 3 (by decide) (by decide) w2 hc2).mono ?_
  rintro e w3 ⟨z, rfl, hz0, hz1', hc3, hb3⟩
  obtain ⟨m, rfl⟩ : ∃ m : Nat, z = m := ⟨z.toNat, by omega⟩
  have ho3 := ho2.beside hb3 (by omega)
  have hB3 := hb2.trans hb3
  have hle : l.length ≤ 31 := hsm.1
  have hsm' := hsm.more
  clear ho2 hc2 hb2 hb3 hc1 hc
  go_wp2
  go_loopw [4, 5] (fun u i wr => ∃ (k : Nat) (l : List Fl), i = .int .i64 k ∧ k ≤ 2 ∧ l.length + k ≤ 34 ∧ SmallG l ∧ OwnsF wr w1.heap.size u l ∧ Cur wr w.heap.size sa sl sc ∧ Beside w.heap.size w1 wr) (fun _ i _ => (intOf i).toNat)
  case atStart => exact ⟨m, l, rfl, by omega, by omega, hsm', ho3, hc3, hB3⟩
  case round =>
    clear ho3 hc3 hB3 hsm' hsm hle
    obtain ⟨k, l, rfl, hk2, hlk, hsml, hown, hcur, hbes⟩ := hrel
    by_cases hk : 0 < k
    · have hk' : (0 : Int) < (k : Int) := by omega
      have hwz : w.heap.size < wr.heap.size := hcur.2.2.1
      have hba := (Below.refl wr.heap.size wr).alloc (Nat.le_refl _) (.cells tabFr 81)
      have ta := heap_alloc_new wr (.cells tabFr 81)
      go_wp2_with fail
      refine (l1Below w.heap.size sa sl sc 6 (by decide) (by decide) (wr.alloc (.cells tabFr 81)) (hcur.kept hba hwz)).mono ?_
      rintro e y1 ⟨z, rfl, hz0, hz1', hc1, hb1'⟩
      obtain ⟨j, rfl⟩ : ∃ j : Nat, z = j := ⟨z.toNat, by omega⟩
      have ta1 := hb1'.at (by omega) ta
      obtain ⟨f, hf1, hf2, hz1, hz2⟩ := tabFr_at j (by omega)
      have c1 : y1.cell? ⟨wr.heap.size, j * 2, none⟩ = some (.string f.1) := by rw [cell_of_row y1 _ (j * 2) _ _ _ ta1]; exact hf1
      have c2 : y1.cell? ⟨wr.heap.size, j * 2 + 1, none⟩ = some (.string f.2) := by rw [cell_of_row y1 _ (j * 2 + 1) _ _ _ ta1]; exact hf2
      have ho1 := (hown.alloc (.cells tabFr 81)).beside hb1' (by omega)
      have hbs1 := (hbes.below hba).trans hb1'
      have hsz1 : w1.heap.size ≤ y1.heap.size := hbs1.2.2.2.1
      clear ta ta1 hf1 hf2 hba hb1' hown hbes
      go_wp2_with (at_builtin; refine wpList_pushF _ rfl (.tmp 16) (.tmp 28) rfl w1.heap.size _ l f rfl ho1 rfl (by omega) hsz1 ?_; intro v3 y3 ho3 hg3; have hlow : Below w1.heap.size y1 y3 := grown_low hg3 (OwnsF.from ho1) hsz1; have hc3 : Cur y3 w.heap.size sa sl sc := hc1.kept hlow (by omega); have hbs3 : Beside w.heap.size w1 y3 := hbs1.grown hg3 (fun q hq => OwnsF.from ho1 q hq))
      go_roundw
      case rel => exact ⟨k - 1, l ++ [f], by rw [show ((k - 1 : Nat) : Int) = (k : Int) - 1 by omega], by omega, by rw [List.length_append, List.length_singleton]; omega, small_more hsml (by omega) f ⟨hz1, hz2⟩, ho3, hc3, hbs3⟩
      case measure => simp [intOf]; omega
    · obtain rfl : k = 0 := by omega
      go_wp2
      go_ret
      exact ⟨⟨_, l, rfl, hown.low (by omega), hsml⟩, hb1.trans (hbes.low (Nat.le_refl _) hb1.size)⟩
end Go.Proofs.YteibacmohplblaaGreatDoor
