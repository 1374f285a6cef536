/-
  The program's ReadResponse by its contract.
-/
import Derived.Test.YteibacmohplblaaGreatDoorMqJ
import Derived.Deep.RegionWith
namespace Go.Proofs.YteibacmohplblaaGreatDoor
open Go.RowKit Go.Sort
set_option linter.unusedVariables false

set_option maxHeartbeats 2000000 in
theorem implRdRs_line (t : ByteArray) (m : Int) (w : World) (hm : w.cell? ⟨1, 0, none⟩ = some (.int .i64 m)) (ht : t.size ≤ 1048576) (hbad : ∀ x r m g v, lnC t.data.toList = some (x, r) → wrdL x = [m, g, v] → ¬ goodS m g v) :
    Calls Tryz.prog 26 #[.string t] w fun e w' => GivesS w w' e (rdRs t.data.toList) := by
  have hmf : ∀ (fn : Fn) (first cap : Array Value) (w : World), (Instr.makeFunc fn first cap).run Tryz.prog w = .ok (.func fn first cap) w := fun _ _ _ _ => rfl
  have F0 : Hid (FrS w _) := FrS.new w t
  have R0 := Rdr.new ((w.alloc (.cells #[.int .i64 0, .slice none 0 0, .string ⟨#[]⟩] 39)).alloc (.cells #[.int .i64 0] 2)) t
  have e0 : ((w.alloc (.cells #[.int .i64 0, .slice none 0 0, .string ⟨#[]⟩] 39)).alloc (.cells #[.int .i64 0] 2)).heap.size = w.heap.size + 2 := by simp
  rw [e0] at R0
  have m0 := (F0.out.b.cell (p := ⟨1, 0, none⟩) (cell_lt hm)).trans hm
  have hl := implRsLine_no _ t m _ R0 ht m0 hbad
  have HP : Hid (rdRs t.data.toList = (1, noS, 0)) := badS hbad
  clear R0 e0 m0
  go_enter_defers Tryz.func26, Tryz.ntmps26
  go_wp2_with (go_at_call 47; refine (implNewR t _).mono ?_; rintro e w1 ⟨rfl, rfl⟩)
  generalize ((w.alloc (.cells #[.int .i64 0, .slice none 0 0, .string ⟨#[]⟩] 39)).alloc (.cells #[.int .i64 0] 2)).alloc (.cells #[.string t, .int .i64 0] 63) = wb at F0 hl ⊢
  refine hl.mono ?_
  rintro e w2 ⟨rfl, hg2⟩
  have F2 : Hid (FrS w w2) := F0.out.next hg2
  clear F0 hl hg2
  exact leaveS F2.out HP.out rfl rfl rfl
set_option maxHeartbeats 4000000 in
theorem implRdRs_go (t : ByteArray) (m : Int) (x r a1 a2 a3 : List UInt8) (w : World) (hm : w.cell? ⟨1, 0, none⟩ = some (.int .i64 m)) (ht : t.size ≤ 1048576) (hc : lnC t.data.toList = some (x, r)) (hw : wrdL x = [a1, a2, a3]) (hg : goodS a1 a2 a3) :
    Calls Tryz.prog 26 #[.string t] w fun e w' => GivesS w w' e (rdRs t.data.toList) := by
  have hmf : ∀ (fn : Fn) (first cap : Array Value) (w : World), (Instr.makeFunc fn first cap).run Tryz.prog w = .ok (.func fn first cap) w := fun _ _ _ _ => rfl
  have hlS := goodS_line hc hw hg
  have htl : t.data.toList.length = t.size := by simp
  have hxk := (word_few hc hw (by omega)).1
  rw [htl] at hxk
  have hdr := lnC_drop hc
  have HRR : Hid (∀ k, ¬ k = 0 → (rstA r (bareB (numV 10 15 (txtL a2)))).k = k → rdRs t.data.toList = (k, noS, 0)) := fun k hk h => by
    have := rs_rest hlS hw hg (by rw [h]; exact hk)
    rw [h] at this
    exact this
  have HRY : Hid ((rstA r (bareB (numV 10 15 (txtL a2)))).k = 0 → rdRs t.data.toList = (0, ⟨numV 10 15 (txtL a2), (rstA r (bareB (numV 10 15 (txtL a2)))).l, (rstA r (bareB (numV 10 15 (txtL a2)))).b⟩, (t.size : Int) - ((rstA r (bareB (numV 10 15 (txtL a2)))).r.length : Int))) := fun h => by
    have := rs_yes hlS hw hg h
    rw [htl] at this
    exact this
  have F0 : Hid (FrS w _) := FrS.new w t
  have R0 := Rdr.new ((w.alloc (.cells #[.int .i64 0, .slice none 0 0, .string ⟨#[]⟩] 39)).alloc (.cells #[.int .i64 0] 2)) t
  have e0 : ((w.alloc (.cells #[.int .i64 0, .slice none 0 0, .string ⟨#[]⟩] 39)).alloc (.cells #[.int .i64 0] 2)).heap.size = w.heap.size + 2 := by simp
  rw [e0] at R0
  have m0 := (F0.out.b.cell (p := ⟨1, 0, none⟩) (cell_lt hm)).trans hm
  have hl := implRsLine_yes _ t m x r a1 a2 a3 _ R0 ht m0 hc hw hg
  have hmm : Hid (∀ W, FrS w W → W.cell? ⟨1, 0, none⟩ = some (.int .i64 m)) := fun W hW => (hW.b.cell (p := ⟨1, 0, none⟩) (cell_lt hm)).trans hm
  clear R0 e0 m0 hm hlS hc hw hg
  generalize rdRs t.data.toList = P at HRR HRY ⊢
  generalize numV 10 15 (txtL a2) = st at hl HRR HRY
  cases hrd : rdA r with
  | none =>
    have HP : Hid (P = (2, noS, 0)) := HRR.out 2 (by decide) (by rw [rst_of_none hrd]; rfl)
    have hfl : Hid (∀ W, FrS w W → Rdr W (w.heap.size + 1 + 1) t (x.length + 2) → Calls Tryz.prog 49 #[.pointer (some ⟨w.heap.size + 1 + 1, 0, none⟩)] W fun e w' => e = .panicked (panL 2) ∧ W.grownBy w' (some (w.heap.size + 2))) := fun W hW hR => implFields_no _ t _ m W hR (by omega) ht (hmm.out W hW) (by rw [hdr]; exact hrd)
    clear HRR HRY hrd hmm
    go_enter_defers Tryz.func26, Tryz.ntmps26
    go_wp2_with (go_at_call 47; refine (implNewR t _).mono ?_; rintro e w1 ⟨rfl, rfl⟩)
    generalize ((w.alloc (.cells #[.int .i64 0, .slice none 0 0, .string ⟨#[]⟩] 39)).alloc (.cells #[.int .i64 0] 2)).alloc (.cells #[.string t, .int .i64 0] 63) = wb at F0 hl ⊢
    refine hl.mono ?_
    rintro e w2 ⟨rfl, hr2, hg2⟩
    have F2 : Hid (FrS w w2) := F0.out.next hg2
    have R2 : Hid (Rdr w2 (w.heap.size + 2) t (x.length + 2)) := hr2
    clear F0 hl hg2 hr2
    go_wp2_with fail
    refine (hfl.out _ F2.out R2.out).mono ?_
    rintro e w3 ⟨rfl, hg3⟩
    exact leaveS (F2.out.next hg3) HP.out rfl rfl rfl
  | some p =>
    obtain ⟨l, q⟩ := p
    have hok := rdA_ok hrd
    have hqf := rdA_few hrd
    have hrl : r.length = t.size - (x.length + 2) := by rw [← hdr, List.length_drop, htl]
    have hdq := rdA_at hdr (by omega) hrd
    rw [htl] at hdq
    have hfl : Hid (∀ W, FrS w W → Rdr W (w.heap.size + 1 + 1) t (x.length + 2) → Calls Tryz.prog 49 #[.pointer (some ⟨w.heap.size + 1 + 1, 0, none⟩)] W fun e w' => ∃ u, e = .returned u ∧ HasF w' W.heap.size u l ∧ Rdr w' (w.heap.size + 2) t (t.size - q.length) ∧ W.grownBy w' (some (w.heap.size + 2))) := fun W hW hR => implFields_yes _ t _ m l q W hR (by omega) ht (hmm.out W hW) (by rw [hdr]; exact hrd)
    have hrt : r.length ≤ t.size := by omega
    rcases frm_split l with h3 | ⟨fk, fn, hfr, h3⟩
    · have HP : Hid (P = (3, noS, 0)) := HRR.out 3 (by decide) (by rw [rst_of_bad hrd (by rw [h3])]; rfl)
      have hri : Hid (∀ W u B, HasF W B u l → Calls Tryz.prog 50 #[u] W fun e w' => e = .panicked (panL 3) ∧ Below W.heap.size W w') := fun W u B hF => implRight_no u l W (hF.fits hok) h3
      clear hrd hmm hdr hdq hrl HRR HRY h3
      go_enter_defers Tryz.func26, Tryz.ntmps26
      go_wp2_with (go_at_call 47; refine (implNewR t _).mono ?_; rintro e w1 ⟨rfl, rfl⟩)
      generalize ((w.alloc (.cells #[.int .i64 0, .slice none 0 0, .string ⟨#[]⟩] 39)).alloc (.cells #[.int .i64 0] 2)).alloc (.cells #[.string t, .int .i64 0] 63) = wb at F0 hl ⊢
      refine hl.mono ?_
      rintro e w2 ⟨rfl, hr2, hg2⟩
      have F2 : Hid (FrS w w2) := F0.out.next hg2
      have R2 : Hid (Rdr w2 (w.heap.size + 2) t (x.length + 2)) := hr2
      clear F0 hl hg2 hr2
      go_wp2_with fail
      refine (hfl.out _ F2.out R2.out).mono ?_
      rintro e w3 ⟨u, rfl, hF3, hr3, hg3⟩
      have F3 : Hid (FrS w w3) := F2.out.next hg3
      have R3 : Hid (Rdr w3 (w.heap.size + 2) t (t.size - q.length)) := hr3
      have h32 : Hid (w.heap.size + 2 < w2.heap.size) := F2.out.hi
      have hF3' := hF3
      obtain ⟨A3, cap3, rfl, hc3, hm3, _⟩ := hF3.form
      have H3 : Hid (HasF w3 w2.heap.size (.slice A3 l.length cap3) l) := hF3'
      clear hF3 hF3' hfl hg3 hr3 F2 R2
      go_wp2_with fail
      refine (hri.out _ _ _ H3.out).mono ?_
      rintro e w4 ⟨rfl, hb4⟩
      exact leaveS (F3.out.next (grown_below (grown_self _ _) hb4)) HP.out rfl rfl rfl
    · have hri : Hid (∀ W u B, HasF W B u l → Calls Tryz.prog 50 #[u] W fun e w' => e = .returned (.tuple #[.int .i64 fk, .int .i64 fn]) ∧ Below W.heap.size W w') := fun W u B hF => implRight_yes u l fk fn W (hF.fits hok) hfr h3
      by_cases hbare : bareB st = true
      · have hba : Hid (∀ W, Calls Tryz.prog 75 #[.int .i64 st] W fun e w' => e = .returned (.bool true) ∧ W = w') := fun W => (implBare st W).mono fun e w' ⟨h1, h2⟩ => ⟨by rw [h1, hbare], h2⟩
        have HP : Hid (P = (0, ⟨st, woB l, ⟨#[]⟩⟩, (t.size : Int) - (q.length : Int))) := by
          have hb := rst_of_bare (bare := bareB st) hrd (by rw [hfr]; exact h3) (.inl hbare)
          have := HRY.out (by rw [hb])
          rw [hb] at this
          exact this
        clear hrd hmm hdr hdq hrl hfr h3 hbare HRR HRY
        go_enter_defers Tryz.func26, Tryz.ntmps26
        go_wp2_with (go_at_call 47; refine (implNewR t _).mono ?_; rintro e w1 ⟨rfl, rfl⟩)
        generalize ((w.alloc (.cells #[.int .i64 0, .slice none 0 0, .string ⟨#[]⟩] 39)).alloc (.cells #[.int .i64 0] 2)).alloc (.cells #[.string t, .int .i64 0] 63) = wb at F0 hl ⊢
        refine hl.mono ?_
        rintro e w2 ⟨rfl, hr2, hg2⟩
        have F2 : Hid (FrS w w2) := F0.out.next hg2
        have R2 : Hid (Rdr w2 (w.heap.size + 2) t (x.length + 2)) := hr2
        clear F0 hl hg2 hr2
        go_wp2_with fail
        refine (hfl.out _ F2.out R2.out).mono ?_
        rintro e w3 ⟨u, rfl, hF3, hr3, hg3⟩
        have F3 : Hid (FrS w w3) := F2.out.next hg3
        have R3 : Hid (Rdr w3 (w.heap.size + 2) t (t.size - q.length)) := hr3
        have h32 : Hid (w.heap.size + 2 < w2.heap.size) := F2.out.hi
        have hF3' := hF3
        obtain ⟨A3, cap3, rfl, hc3, hm3, _⟩ := hF3.form
        have H3 : Hid (HasF w3 w2.heap.size (.slice A3 l.length cap3) l) := hF3'
        clear hF3 hF3' hfl hg3 hr3 F2 R2
        go_wp2_with fail
        refine (hri.out _ _ _ H3.out).mono ?_
        rintro e w4 ⟨rfl, hb4⟩
        have F4 : Hid (FrS w w4) := F3.out.next (grown_below (grown_self _ _) hb4)
        have R4 : Hid (Rdr w4 (w.heap.size + 2) t (t.size - q.length)) := R3.out.kept hb4
        have H4 : Hid (HasF w4 w2.heap.size (.slice A3 l.length cap3) l) := H3.out.kept hb4
        clear F3 H3 R3 hri hb4
        go_wp2_with fail
        refine (hba.out _).mono ?_
        rintro e w4' ⟨rfl, rfl⟩
        clear hba
        have F5 := F4
        have H5 := H4
        have R5 := R4
        obtain ⟨w5, rfl⟩ : ∃ x, x = w4 := ⟨w4, rfl⟩
        clear F4 H4 R4
        have hun0 := implUnfr _ l w5.drew (H5.out.drew.fls) hok
        have hun : Calls Tryz.prog 52 #[.slice A3 l.length cap3] w5.drew fun e w' => ∃ g n, e = .returned (.slice (some ⟨g, 0, none⟩) n n) ∧ HasF w' (w.heap.size + 2) (.slice (some ⟨g, 0, none⟩) n n) (woB l) ∧ FrS w w' ∧ w'.cell? ⟨w.heap.size + 1 + 1, 1, none⟩ = some (.int .i64 ((t.size - q.length : Nat) : Int)) := hun0.mono fun e w' ⟨⟨g, n, h1, h2⟩, h3⟩ => by
          have d0 : w5.grownBy w' (some (w.heap.size + 2)) := grown_below (grown_below (grown_self w5 _) (drew_below6 w5)) h3
          exact ⟨g, n, h1, h2.low (by show w.heap.size + 2 ≤ w5.heap.size; have := F5.out.hi; omega), F5.out.next d0, (h3.cell (p := ⟨w.heap.size + 1 + 1, 1, none⟩) (by show _ < w5.heap.size; exact F5.out.hi)).trans R5.out.c1⟩
        have r5 : w5.cell? ⟨w.heap.size + 1 + 1, 1, none⟩ = some (.int .i64 ((t.size - q.length : Nat) : Int)) := R5.out.c1
        have HN : Hid (((t.size - q.length : Nat) : Int) = (t.size : Int) - (q.length : Int)) := by show _ = _; omega
        generalize ((t.size - q.length : Nat) : Int) = N at hun r5 HN
        clear hun0 F5 H5 R5 hmf hqf hc3 hm3 h32
        go_wp2
        refine wp_calm ?_
        go_region_with (go_at_call 52; refine hun.mono ?_; rintro e w6 ⟨g, n6, rfl, h6, f6, r6⟩; have H6 : Hid (HasF w6 (w.heap.size + 2) (.slice (some ⟨g, 0, none⟩) n6 n6) (woB l)) := h6; have F6 : Hid (FrS w w6) := f6; have c0 := f6.q.c0; have c1 := f6.q.c1; have c2 := f6.q.c2; have fz := f6.q.fz; have cc := f6.c; have cf := f6.f; clear h6 f6)
        all_goals
          clear c0 c1 c2 fz cc cf r6
          go_wp2
          exact doneS (r := ⟨st, woB l, ⟨#[]⟩⟩) F6.out H6.out (by rw [HP.out, ← HN.out]) rfl rfl rfl
      · have hbare : bareB st = false := by simpa using hbare
        have hbf := @bdR_few l q
        have hbl := @bdR_l l q
        have hba : Hid (∀ W, Calls Tryz.prog 75 #[.int .i64 st] W fun e w' => e = .returned (.bool false) ∧ W = w') := fun W => (implBare st W).mono fun e w' ⟨h1, h2⟩ => ⟨by rw [h1, hbare], h2⟩
        rw [hbare, rst_bd hrd] at HRR HRY
        have hbd : Hid (∀ W, Rdr W (w.heap.size + 1 + 1) t (t.size - q.length) → Calls Tryz.prog 51 #[.pointer (some ⟨w.heap.size + 1 + 1, 0, none⟩), .int .i64 fk, .int .i64 fn] W fun e w' => (((bdR l q).k = 0 ∧ e = .returned (.string (bdR l q).b) ∧ Rdr w' (w.heap.size + 2) t (t.size - (bdR l q).r.length)) ∨ (¬ (bdR l q).k = 0 ∧ e = .panicked (panL (bdR l q).k))) ∧ W.grownBy w' (some (w.heap.size + 2))) := fun W hR => by
          have := implBody _ t _ fk fn l W hR (by omega) ht hfr h3
          rw [hdq] at this
          exact this
        generalize bdR l q = RS at HRR HRY hbf hbl hbd
        obtain ⟨rk, rl, rb, rr⟩ := RS
        simp only at HRR HRY hbf hbl hbd
        clear hrd hmm hdr hdq hrl hfr h3 hbare
        go_enter_defers Tryz.func26, Tryz.ntmps26
        go_wp2_with (go_at_call 47; refine (implNewR t _).mono ?_; rintro e w1 ⟨rfl, rfl⟩)
        generalize ((w.alloc (.cells #[.int .i64 0, .slice none 0 0, .string ⟨#[]⟩] 39)).alloc (.cells #[.int .i64 0] 2)).alloc (.cells #[.string t, .int .i64 0] 63) = wb at F0 hl ⊢
        refine hl.mono ?_
        rintro e w2 ⟨rfl, hr2, hg2⟩
        have F2 : Hid (FrS w w2) := F0.out.next hg2
        have R2 : Hid (Rdr w2 (w.heap.size + 2) t (x.length + 2)) := hr2
        clear F0 hl hg2 hr2
        go_wp2_with fail
        refine (hfl.out _ F2.out R2.out).mono ?_
        rintro e w3 ⟨u, rfl, hF3, hr3, hg3⟩
        have F3 : Hid (FrS w w3) := F2.out.next hg3
        have R3 : Hid (Rdr w3 (w.heap.size + 2) t (t.size - q.length)) := hr3
        have h32 : Hid (w.heap.size + 2 < w2.heap.size) := F2.out.hi
        have hF3' := hF3
        obtain ⟨A3, cap3, rfl, hc3, hm3, _⟩ := hF3.form
        have H3 : Hid (HasF w3 w2.heap.size (.slice A3 l.length cap3) l) := hF3'
        clear hF3 hF3' hfl hg3 hr3 F2 R2
        go_wp2_with fail
        refine (hri.out _ _ _ H3.out).mono ?_
        rintro e w4 ⟨rfl, hb4⟩
        have F4 : Hid (FrS w w4) := F3.out.next (grown_below (grown_self _ _) hb4)
        have R4 : Hid (Rdr w4 (w.heap.size + 2) t (t.size - q.length)) := R3.out.kept hb4
        have H4 : Hid (HasF w4 w2.heap.size (.slice A3 l.length cap3) l) := H3.out.kept hb4
        clear F3 H3 R3 hri hb4
        go_wp2_with fail
        refine (hba.out _).mono ?_
        rintro e w4' ⟨rfl, rfl⟩
        clear hba
        go_wp2_with fail
        refine (hbd.out _ R4.out).mono ?_
        rintro e w5 ⟨hor, hg5⟩
        have F5 : Hid (FrS w w5) := F4.out.next hg5
        have H5 : Hid (HasF w5 w2.heap.size (.slice A3 l.length cap3) l) := H4.out.grown hg5 (fun j hj e => by have h1 := H4.out.from j hj; injection e with e; have := h32.out; omega)
        clear F4 H4 R4 hbd hg5
        rcases hor with ⟨hk0, rfl, hr5⟩ | ⟨hk0, rfl⟩
        · have R5 : Hid (Rdr w5 (w.heap.size + 2) t (t.size - rr.length)) := hr5
          have HP : Hid (P = (0, ⟨st, woB l, rb⟩, (t.size : Int) - (rr.length : Int))) := by have := HRY.out hk0; rw [hbl hk0] at this; exact this
          clear HRR HRY hr5 hbl hk0
          have hun0 := implUnfr _ l w5.drew (H5.out.drew.fls) hok
          have hun : Calls Tryz.prog 52 #[.slice A3 l.length cap3] w5.drew fun e w' => ∃ g n, e = .returned (.slice (some ⟨g, 0, none⟩) n n) ∧ HasF w' (w.heap.size + 2) (.slice (some ⟨g, 0, none⟩) n n) (woB l) ∧ FrS w w' ∧ w'.cell? ⟨w.heap.size + 1 + 1, 1, none⟩ = some (.int .i64 ((t.size - rr.length : Nat) : Int)) := hun0.mono fun e w' ⟨⟨g, n, h1, h2⟩, h3⟩ => by
            have d0 : w5.grownBy w' (some (w.heap.size + 2)) := grown_below (grown_below (grown_self w5 _) (drew_below6 w5)) h3
            exact ⟨g, n, h1, h2.low (by show w.heap.size + 2 ≤ w5.heap.size; have := F5.out.hi; omega), F5.out.next d0, (h3.cell (p := ⟨w.heap.size + 1 + 1, 1, none⟩) (by show _ < w5.heap.size; exact F5.out.hi)).trans R5.out.c1⟩
          have r5 : w5.cell? ⟨w.heap.size + 1 + 1, 1, none⟩ = some (.int .i64 ((t.size - rr.length : Nat) : Int)) := R5.out.c1
          have HN : Hid (((t.size - rr.length : Nat) : Int) = (t.size : Int) - (rr.length : Int)) := by show _ = _; omega
          generalize ((t.size - rr.length : Nat) : Int) = N at hun r5 HN
          clear hun0 F5 H5 R5 hmf hqf hbf hc3 hm3 h32
          go_wp2
          refine wp_calm ?_
          go_region_with (go_at_call 52; refine hun.mono ?_; rintro e w6 ⟨g, n6, rfl, h6, f6, r6⟩; have H6 : Hid (HasF w6 (w.heap.size + 2) (.slice (some ⟨g, 0, none⟩) n6 n6) (woB l)) := h6; have F6 : Hid (FrS w w6) := f6; have c0 := f6.q.c0; have c1 := f6.q.c1; have c2 := f6.q.c2; have fz := f6.q.fz; have cc := f6.c; have cf := f6.f; clear h6 f6)
          all_goals
            clear c0 c1 c2 fz cc cf r6
            go_wp2
            exact doneS (r := ⟨st, woB l, rb⟩) F6.out H6.out (by rw [HP.out, ← HN.out]) rfl rfl rfl
        · exact leaveS F5.out (HRR.out rk hk0 rfl) rfl rfl rfl
theorem implRdRs (t : ByteArray) (m : Int) (w : World) (hm : w.cell? ⟨1, 0, none⟩ = some (.int .i64 m)) (ht : t.size ≤ 1048576) :
    Calls Tryz.prog 26 #[.string t] w fun e w' => GivesS w w' e (rdRs t.data.toList) := by
  by_cases h : ∃ x r a1 a2 a3, lnC t.data.toList = some (x, r) ∧ wrdL x = [a1, a2, a3] ∧ goodS a1 a2 a3
  · obtain ⟨x, r, a1, a2, a3, hc, hw, hg⟩ := h
    exact implRdRs_go t m x r a1 a2 a3 w hm ht hc hw hg
  · exact implRdRs_line t m w hm ht (fun x r m g v hc hw hg => h ⟨x, r, m, g, v, hc, hw, hg⟩)
end Go.Proofs.YteibacmohplblaaGreatDoor
