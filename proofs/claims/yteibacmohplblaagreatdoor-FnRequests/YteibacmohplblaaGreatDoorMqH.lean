/-
  The program's ReadRequest by its contract, behind a right first line.
-/
import Derived.Test.YteibacmohplblaaGreatDoorMqG
import Derived.Deep.RegionWith
namespace Go.Proofs.YteibacmohplblaaGreatDoor
open Go.RowKit Go.Sort
set_option linter.unusedVariables false

theorem lnC_drop {t x r : List UInt8} (h : lnC t = some (x, r)) : t.drop (x.length + 2) = r := by
  rw [lnC_length h]
  have e : (x ++ [13, 10]).length = x.length + 2 := by simp
  rw [← e, List.drop_left]
theorem bdR_l {l : List Fl} {q : List UInt8} (h : (bdR l q).k = 0) : (bdR l q).l = woB l := by
  unfold bdR at h ⊢
  split
  · rename_i h3; rw [if_pos h3] at h; cases h
  · rename_i h3
    rw [if_neg h3] at h
    split
    · rfl
    · rename_i h0
      rw [if_neg h0] at h
      split
      · rename_i h1
        rw [if_pos h1] at h
        split
        · rfl
        · rename_i h2; rw [if_neg h2] at h; cases h
      · rename_i h1
        rw [if_neg h1] at h
        split
        · rfl
        · rename_i h2; rw [if_neg h2] at h; cases h
theorem bdR_few {l : List Fl} {q : List UInt8} : (bdR l q).r.length ≤ q.length := by
  unfold bdR
  split
  · exact Nat.zero_le _
  · split
    · exact Nat.le_refl _
    · split
      · split
        · rw [List.length_drop]; omega
        · exact Nat.zero_le _
      · split
        · rw [List.length_drop]; omega
        · exact Nat.zero_le _
theorem rdA_at {t r q : List UInt8} {l : List Fl} {k : Nat} (h : t.drop k = r) (hk : k ≤ t.length) (hr : rdA r = some (l, q)) : t.drop (t.length - q.length) = q := by
  have h1 := rdA_drop hr
  have h2 := rdA_few hr
  have hl : r.length = t.length - k := by rw [← h, List.length_drop]
  rw [← h, List.drop_drop, show k + ((t.drop k).length - q.length) = t.length - q.length by rw [List.length_drop]; omega] at h1
  exact h1

theorem frm_split (l : List Fl) : frm l = (3, 0) ∨ ∃ fk fn, frm l = (fk, fn) ∧ ¬ fk = 3 := by
  rcases frm_cases l with hfr | ⟨n, hfr, hn⟩ | hfr | hfr
  · exact .inr ⟨0, 0, hfr, by decide⟩
  · exact .inr ⟨1, n, hfr, by decide⟩
  · exact .inr ⟨2, 0, hfr, by decide⟩
  · exact .inl hfr
theorem bdR_bad {l : List Fl} {q : List UInt8} (h : frm l = (3, 0)) : bdR l q = noR 3 := by
  unfold bdR
  rw [h]
  rfl
theorem wp_calm {P : Program} {c : Code} {K : Act → World → Prop} {Q : Exit → Act → World → Prop} {a : Act} {w : World} (h : c.wp P (Exit.then K fun _ _ _ => False) a w) : c.wp P (Exit.then K Q) a w :=
  Code.wp_mono (fun e a w q => by cases e <;> first | exact q | exact q.elim) h
theorem drew_below6 (w : World) : Below w.heap.size w w.drew := ⟨rfl, rfl, rfl, Nat.le_refl _, fun _ _ => rfl⟩
theorem RqB.put {w : World} {b : Nat} {r0 r : Rq} {v0 v : Value} (h : RqB w b r0 v0) : RqB ((((w.setCell ⟨b, 0, none⟩ (.string r.m)).setCell ⟨b, 1, none⟩ (.string r.t)).setCell ⟨b, 2, none⟩ v).setCell ⟨b, 3, none⟩ (.string r.b)) b r v where
  c0 := by rw [World.cell?_setCell_other _ _ _ _ (by simp), World.cell?_setCell_other _ _ _ _ (by simp), World.cell?_setCell_other _ _ _ _ (by simp)]; exact World.cell?_setCell_same _ _ _ h.c0
  c1 := by rw [World.cell?_setCell_other _ _ _ _ (by simp), World.cell?_setCell_other _ _ _ _ (by simp)]; exact World.cell?_setCell_same _ _ _ (by rw [World.cell?_setCell_other _ _ _ _ (by simp)]; exact h.c1)
  c2 := by rw [World.cell?_setCell_other _ _ _ _ (by simp)]; exact World.cell?_setCell_same _ _ _ (by rw [World.cell?_setCell_other _ _ _ _ (by simp), World.cell?_setCell_other _ _ _ _ (by simp)]; exact h.c2)
  c3 := World.cell?_setCell_same _ _ _ (by rw [World.cell?_setCell_other _ _ _ _ (by simp), World.cell?_setCell_other _ _ _ _ (by simp), World.cell?_setCell_other _ _ _ _ (by simp)]; exact h.c3)
  fz := fun k => by rw [World.frozen?_setCell, World.frozen?_setCell, World.frozen?_setCell, World.frozen?_setCell]; exact h.fz k
  hi := by rw [World.size_setCell, World.size_setCell, World.size_setCell, World.size_setCell]; exact h.hi
/-- The world behind the last region of ReadRequest. -/
def lastQ (n : Nat) (r : Rq) (u : Value) (w : World) : World := ((((w.setCell ⟨n, 0, none⟩ (.string r.m)).setCell ⟨n, 1, none⟩ (.string r.t)).setCell ⟨n, 2, none⟩ u).setCell ⟨n, 3, none⟩ (.string r.b)).setCell ⟨n + 1, 0, none⟩ (.int .i64 0)
theorem doneQ {w w5 : World} {r : Rq} {u : Value} {N : Int} {P : Int × Rq × Int} {tmps : Array Value} (F : FrQ w w5) (hF : HasF w5 (w.heap.size + 2) u r.l) (hP : P = (0, r, N)) (h2 : tmps.getD 2 undef = .pointer (some ⟨w.heap.size, 0, none⟩)) (h3 : tmps.getD 3 undef = .int .i64 N) (h4 : tmps.getD 4 undef = .pointer (some ⟨w.heap.size + 1, 0, none⟩)) :
    bodyPostD Tryz.prog Tryz.f13 (fun e w' => GivesQ w w' e P) .ret { tmps := tmps, defers := [{ target := .fn (.func 45) #[.pointer (some ⟨w.heap.size + 1, 0, none⟩)], args := #[] }] } (lastQ w.heap.size r u w5) := by
  have q4 := RqB.put (r := r) (v := u) F.q
  have B4 : Below w.heap.size w ((((w5.setCell ⟨w.heap.size, 0, none⟩ (.string r.m)).setCell ⟨w.heap.size, 1, none⟩ (.string r.t)).setCell ⟨w.heap.size, 2, none⟩ u).setCell ⟨w.heap.size, 3, none⟩ (.string r.b)) := (((F.b.setCell (Nat.le_refl _) _).setCell (Nat.le_refl _) _).setCell (Nat.le_refl _) _).setCell (Nat.le_refl _) _
  have C4 : ((((w5.setCell ⟨w.heap.size, 0, none⟩ (.string r.m)).setCell ⟨w.heap.size, 1, none⟩ (.string r.t)).setCell ⟨w.heap.size, 2, none⟩ u).setCell ⟨w.heap.size, 3, none⟩ (.string r.b)).cell? ⟨w.heap.size + 1, 0, none⟩ = some (.int .i64 0) := by
    rw [World.cell?_setCell_other _ _ _ _ (by simp), World.cell?_setCell_other _ _ _ _ (by simp), World.cell?_setCell_other _ _ _ _ (by simp), World.cell?_setCell_other _ _ _ _ (by simp)]
    exact F.c
  have Z4 : ((((w5.setCell ⟨w.heap.size, 0, none⟩ (.string r.m)).setCell ⟨w.heap.size, 1, none⟩ (.string r.t)).setCell ⟨w.heap.size, 2, none⟩ u).setCell ⟨w.heap.size, 3, none⟩ (.string r.b)).frozen? ⟨w.heap.size + 1, 0, none⟩ = false := by
    rw [World.frozen?_setCell, World.frozen?_setCell, World.frozen?_setCell, World.frozen?_setCell]
    exact F.f
  have H4 : HasF ((((w5.setCell ⟨w.heap.size, 0, none⟩ (.string r.m)).setCell ⟨w.heap.size, 1, none⟩ (.string r.t)).setCell ⟨w.heap.size, 2, none⟩ u).setCell ⟨w.heap.size, 3, none⟩ (.string r.b)) (w.heap.size + 2) u r.l := (((hF.far (by omega) _).far (by omega) _).far (by omega) _).far (by omega) _
  unfold lastQ
  generalize (((w5.setCell ⟨w.heap.size, 0, none⟩ (.string r.m)).setCell ⟨w.heap.size, 1, none⟩ (.string r.t)).setCell ⟨w.heap.size, 2, none⟩ u).setCell ⟨w.heap.size, 3, none⟩ (.string r.b) = w6 at q4 B4 C4 Z4 H4 ⊢
  have c6 : (w6.setCell ⟨w.heap.size + 1, 0, none⟩ (.int .i64 0)).cell? ⟨w.heap.size + 1, 0, none⟩ = some (.int .i64 0) := World.cell?_setCell_same _ _ _ C4
  have z6 : (w6.setCell ⟨w.heap.size + 1, 0, none⟩ (.int .i64 0)).frozen? ⟨w.heap.size + 1, 0, none⟩ = false := by rw [World.frozen?_setCell]; exact Z4
  have q6 := q4.past (grown_put (grown_self w6 (some (w.heap.size + 1))) 0 (.int .i64 0)) (by simp)
  have b6 := B4.setCell (p := ⟨w.heap.size + 1, 0, none⟩) (by show w.heap.size ≤ w.heap.size + 1; omega) (.int .i64 0)
  have h6 := H4.far (b := w.heap.size + 1) (k := 0) (by omega) (.int .i64 0)
  clear q4 B4 C4 Z4 H4
  generalize w6.setCell ⟨w.heap.size + 1, 0, none⟩ (.int .i64 0) = w7 at c6 z6 q6 b6 h6 ⊢
  refine leaves_cons (f := 45) (args := #[.pointer (some ⟨w.heap.size + 1, 0, none⟩)]) (by simp) (by simp [go_sem]) ?_
  refine (catchQ_idle ⟨w.heap.size + 1, 0, none⟩ 0 w7 c6 z6).mono ?_
  rintro e u' w'' ⟨rfl, rfl, rfl⟩
  have hq := q6.past (grown_put (grown_self w7 (some (w.heap.size + 1))) 0 (.int .i64 0)) (by simp)
  have hc : (w7.setCell ⟨w.heap.size + 1, 0, none⟩ (.int .i64 0)).cell? ⟨w.heap.size + 1, 0, none⟩ = some (.int .i64 0) := World.cell?_setCell_same _ _ _ c6
  have hb := b6.setCell (p := ⟨w.heap.size + 1, 0, none⟩) (by show w.heap.size ≤ w.heap.size + 1; omega) (.int .i64 0)
  have hh := h6.far (b := w.heap.size + 1) (k := 0) (by omega) (.int .i64 0)
  clear c6 z6 q6 b6 h6
  generalize w7.setCell ⟨w.heap.size + 1, 0, none⟩ (.int .i64 0) = w8 at hq hc hb hh ⊢
  have c0 := hq.c0
  have c1 := hq.c1
  have c2 := hq.c2
  have c3 := hq.c3
  subst hP
  refine ⟨.tuple #[.agg #[.string r.m, .string r.t, u, .string r.b], .int .i64 N, .int .i64 0], ?_, ⟨u, rfl, hh.low (by omega), hb⟩⟩
  simp only [Array.getD_eq_getD_getElem?] at h2 h3 h4
  simp [results, Tryz.results13, go_sem, h2, h3, h4, hc, c0, c1, c2, c3]

set_option maxHeartbeats 4000000 in
theorem implRdRq_go (t : ByteArray) (m : Int) (x r a1 a2 a3 : List UInt8) (w : World) (hm : w.cell? ⟨1, 0, none⟩ = some (.int .i64 m)) (ht : t.size ≤ 1048576) (hc : lnC t.data.toList = some (x, r)) (hw : wrdL x = [a1, a2, a3]) (hg : goodQ a1 a2 a3) :
    Calls Tryz.prog 13 #[.string t] w fun e w' => GivesQ w w' e (rdRq t.data.toList) := by
  have hmf : ∀ (fn : Fn) (first cap : Array Value) (w : World), (Instr.makeFunc fn first cap).run Tryz.prog w = .ok (.func fn first cap) w := fun _ _ _ _ => rfl
  have hlS := goodQ_line hc hw hg
  have htl : t.data.toList.length = t.size := by simp
  have hxk := (word_few hc hw (by omega)).1
  rw [htl] at hxk
  have hdr := lnC_drop hc
  have HRR : Hid (∀ k, ¬ k = 0 → (rstA r false).k = k → rdRq t.data.toList = (k, noQ, 0)) := fun k hk h => by
    have := rq_rest hlS hw hg (by rw [h]; exact hk)
    rw [h] at this
    exact this
  have HRY : Hid ((rstA r false).k = 0 → rdRq t.data.toList = (0, ⟨txtL a1, txtL a2, (rstA r false).l, (rstA r false).b⟩, (t.size : Int) - ((rstA r false).r.length : Int))) := fun h => by
    have := rq_yes hlS hw hg h
    rw [htl] at this
    exact this
  have F0 : Hid (FrQ w _) := FrQ.new w t
  have R0 := Rdr.new ((w.alloc (.cells #[.string ⟨#[]⟩, .string ⟨#[]⟩, .slice none 0 0, .string ⟨#[]⟩] 26)).alloc (.cells #[.int .i64 0] 2)) t
  have e0 : ((w.alloc (.cells #[.string ⟨#[]⟩, .string ⟨#[]⟩, .slice none 0 0, .string ⟨#[]⟩] 26)).alloc (.cells #[.int .i64 0] 2)).heap.size = w.heap.size + 2 := by simp
  rw [e0] at R0
  have m0 := (F0.out.b.cell (p := ⟨1, 0, none⟩) (cell_lt hm)).trans hm
  have hl := implRqLine_yes _ t m x r a1 a2 a3 _ R0 ht m0 hc hw hg
  have hmm : Hid (∀ W, FrQ w W → W.cell? ⟨1, 0, none⟩ = some (.int .i64 m)) := fun W hW => (hW.b.cell (p := ⟨1, 0, none⟩) (cell_lt hm)).trans hm
  clear R0 e0 m0 hm hlS hc hw hg
  generalize rdRq t.data.toList = P at HRR HRY ⊢
  generalize txtL a1 = A1 at hl HRY
  generalize txtL a2 = A2 at hl HRY
  cases hrd : rdA r with
  | none =>
    have HP : Hid (P = (2, noQ, 0)) := HRR.out 2 (by decide) (by rw [rst_of_none hrd]; rfl)
    have hfl : Hid (∀ W, FrQ w W → Rdr W (w.heap.size + 1 + 1) t (x.length + 2) → Calls Tryz.prog 49 #[.pointer (some ⟨w.heap.size + 1 + 1, 0, none⟩)] W fun e w' => e = .panicked (panL 2) ∧ W.grownBy w' (some (w.heap.size + 2))) := fun W hW hR => implFields_no _ t _ m W hR (by omega) ht (hmm.out W hW) (by rw [hdr]; exact hrd)
    clear HRR HRY hrd hmm
    go_enter_defers Tryz.func13, Tryz.ntmps13
    go_wp2_with (go_at_call 47; refine (implNewR t _).mono ?_; rintro e w1 ⟨rfl, rfl⟩)
    generalize ((w.alloc (.cells #[.string ⟨#[]⟩, .string ⟨#[]⟩, .slice none 0 0, .string ⟨#[]⟩] 26)).alloc (.cells #[.int .i64 0] 2)).alloc (.cells #[.string t, .int .i64 0] 63) = wb at F0 hl ⊢
    refine hl.mono ?_
    rintro e w2 ⟨rfl, hr2, hg2⟩
    have F2 : Hid (FrQ w w2) := F0.out.next hg2
    have R2 : Hid (Rdr w2 (w.heap.size + 2) t (x.length + 2)) := hr2
    clear F0 hl hg2 hr2
    go_wp2_with fail
    refine (hfl.out _ F2.out R2.out).mono ?_
    rintro e w3 ⟨rfl, hg3⟩
    exact leaveQ (F2.out.next hg3) HP.out rfl rfl rfl
  | some p =>
    obtain ⟨l, q⟩ := p
    have hok := rdA_ok hrd
    have hqf := rdA_few hrd
    have hrl : r.length = t.size - (x.length + 2) := by rw [← hdr, List.length_drop, htl]
    have hdq := rdA_at hdr (by omega) hrd
    rw [htl] at hdq
    have hfl : Hid (∀ W, FrQ w W → Rdr W (w.heap.size + 1 + 1) t (x.length + 2) → Calls Tryz.prog 49 #[.pointer (some ⟨w.heap.size + 1 + 1, 0, none⟩)] W fun e w' => ∃ u, e = .returned u ∧ HasF w' W.heap.size u l ∧ Rdr w' (w.heap.size + 2) t (t.size - q.length) ∧ W.grownBy w' (some (w.heap.size + 2))) := fun W hW hR => implFields_yes _ t _ m l q W hR (by omega) ht (hmm.out W hW) (by rw [hdr]; exact hrd)
    have hrt : r.length ≤ t.size := by omega
    rcases frm_split l with h3 | ⟨fk, fn, hfr, h3⟩
    · have HP : Hid (P = (3, noQ, 0)) := HRR.out 3 (by decide) (by rw [rst_bd hrd, bdR_bad h3]; rfl)
      have hri : Hid (∀ W u B, HasF W B u l → Calls Tryz.prog 50 #[u] W fun e w' => e = .panicked (panL 3) ∧ Below W.heap.size W w') := fun W u B hF => implRight_no u l W (hF.fits hok) h3
      clear hrd hmm hdr hdq hrl HRR HRY h3
      go_enter_defers Tryz.func13, Tryz.ntmps13
      go_wp2_with (go_at_call 47; refine (implNewR t _).mono ?_; rintro e w1 ⟨rfl, rfl⟩)
      generalize ((w.alloc (.cells #[.string ⟨#[]⟩, .string ⟨#[]⟩, .slice none 0 0, .string ⟨#[]⟩] 26)).alloc (.cells #[.int .i64 0] 2)).alloc (.cells #[.string t, .int .i64 0] 63) = wb at F0 hl ⊢
      refine hl.mono ?_
      rintro e w2 ⟨rfl, hr2, hg2⟩
      have F2 : Hid (FrQ w w2) := F0.out.next hg2
      have R2 : Hid (Rdr w2 (w.heap.size + 2) t (x.length + 2)) := hr2
      clear F0 hl hg2 hr2
      go_wp2_with fail
      refine (hfl.out _ F2.out R2.out).mono ?_
      rintro e w3 ⟨u, rfl, hF3, hr3, hg3⟩
      have F3 : Hid (FrQ w w3) := F2.out.next hg3
      have R3 : Hid (Rdr w3 (w.heap.size + 2) t (t.size - q.length)) := hr3
      have h32 : Hid (w.heap.size + 2 < w2.heap.size) := F2.out.hi
      have hF3' := hF3
      obtain ⟨A3, cap3, rfl, hc3, hm3, _⟩ := hF3.form
      have H3 : Hid (HasF w3 w2.heap.size (.slice A3 l.length cap3) l) := hF3'
      clear hF3 hF3' hfl hg3 hr3 F2 R2
      go_wp2_with fail
      refine (hri.out _ _ _ H3.out).mono ?_
      rintro e w4 ⟨rfl, hb4⟩
      exact leaveQ (F3.out.next (grown_below (grown_self _ _) hb4)) HP.out rfl rfl rfl
    · have hri : Hid (∀ W u B, HasF W B u l → Calls Tryz.prog 50 #[u] W fun e w' => e = .returned (.tuple #[.int .i64 fk, .int .i64 fn]) ∧ Below W.heap.size W w') := fun W u B hF => implRight_yes u l fk fn W (hF.fits hok) hfr h3
      have hbf := @bdR_few l q
      have hbl := @bdR_l l q
      rw [rst_bd hrd] at HRR HRY
      have hbd : Hid (∀ W, Rdr W (w.heap.size + 1 + 1) t (t.size - q.length) → Calls Tryz.prog 51 #[.pointer (some ⟨w.heap.size + 1 + 1, 0, none⟩), .int .i64 fk, .int .i64 fn] W fun e w' => (((bdR l q).k = 0 ∧ e = .returned (.string (bdR l q).b) ∧ Rdr w' (w.heap.size + 2) t (t.size - (bdR l q).r.length)) ∨ (¬ (bdR l q).k = 0 ∧ e = .panicked (panL (bdR l q).k))) ∧ W.grownBy w' (some (w.heap.size + 2))) := fun W hR => by
        have := implBody _ t _ fk fn l W hR (by omega) ht hfr h3
        rw [hdq] at this
        exact this
      generalize bdR l q = RS at HRR HRY hbf hbl hbd
      obtain ⟨rk, rl, rb, rr⟩ := RS
      simp only at HRR HRY hbf hbl hbd
      clear hrd hmm hdr hdq hrl hfr h3
      go_enter_defers Tryz.func13, Tryz.ntmps13
      go_wp2_with (go_at_call 47; refine (implNewR t _).mono ?_; rintro e w1 ⟨rfl, rfl⟩)
      generalize ((w.alloc (.cells #[.string ⟨#[]⟩, .string ⟨#[]⟩, .slice none 0 0, .string ⟨#[]⟩] 26)).alloc (.cells #[.int .i64 0] 2)).alloc (.cells #[.string t, .int .i64 0] 63) = wb at F0 hl ⊢
      refine hl.mono ?_
      rintro e w2 ⟨rfl, hr2, hg2⟩
      have F2 : Hid (FrQ w w2) := F0.out.next hg2
      have R2 : Hid (Rdr w2 (w.heap.size + 2) t (x.length + 2)) := hr2
      clear F0 hl hg2 hr2
      go_wp2_with fail
      refine (hfl.out _ F2.out R2.out).mono ?_
      rintro e w3 ⟨u, rfl, hF3, hr3, hg3⟩
      have F3 : Hid (FrQ w w3) := F2.out.next hg3
      have R3 : Hid (Rdr w3 (w.heap.size + 2) t (t.size - q.length)) := hr3
      have h32 : Hid (w.heap.size + 2 < w2.heap.size) := F2.out.hi
      have hF3' := hF3
      obtain ⟨A3, cap3, rfl, hc3, hm3, _⟩ := hF3.form
      have H3 : Hid (HasF w3 w2.heap.size (.slice A3 l.length cap3) l) := hF3'
      clear hF3 hF3' hfl hg3 hr3 F2 R2
      go_wp2_with fail
      refine (hri.out _ _ _ H3.out).mono ?_
      rintro e w4 ⟨rfl, hb4⟩
      have F4 : Hid (FrQ w w4) := F3.out.next (grown_below (grown_self _ _) hb4)
      have R4 : Hid (Rdr w4 (w.heap.size + 2) t (t.size - q.length)) := R3.out.kept hb4
      have H4 : Hid (HasF w4 w2.heap.size (.slice A3 l.length cap3) l) := H3.out.kept hb4
      clear F3 H3 R3 hri hb4
      go_wp2_with fail
      refine (hbd.out _ R4.out).mono ?_
      rintro e w5 ⟨hor, hg5⟩
      have F5 : Hid (FrQ w w5) := F4.out.next hg5
      have H5 : Hid (HasF w5 w2.heap.size (.slice A3 l.length cap3) l) := H4.out.grown hg5 (fun j hj e => by have h1 := H4.out.from j hj; injection e with e; have := h32.out; omega)
      clear F4 H4 R4 hbd hg5
      rcases hor with ⟨hk0, rfl, hr5⟩ | ⟨hk0, rfl⟩
      · have R5 : Hid (Rdr w5 (w.heap.size + 2) t (t.size - rr.length)) := hr5
        have HP : Hid (P = (0, ⟨A1, A2, woB l, rb⟩, (t.size : Int) - (rr.length : Int))) := by have := HRY.out hk0; rw [hbl hk0] at this; exact this
        clear HRR HRY hr5 hbl hk0
        have hun0 := implUnfr _ l w5.drew (H5.out.drew.fls) hok
        have hun : Calls Tryz.prog 52 #[.slice A3 l.length cap3] w5.drew fun e w' => ∃ g n, e = .returned (.slice (some ⟨g, 0, none⟩) n n) ∧ HasF w' (w.heap.size + 2) (.slice (some ⟨g, 0, none⟩) n n) (woB l) ∧ FrQ w w' ∧ w'.cell? ⟨w.heap.size + 1 + 1, 1, none⟩ = some (.int .i64 ((t.size - rr.length : Nat) : Int)) := hun0.mono fun e w' ⟨⟨g, n, h1, h2⟩, h3⟩ => by
          have d0 : w5.grownBy w' (some (w.heap.size + 2)) := grown_below (grown_below (grown_self w5 _) (drew_below6 w5)) h3
          exact ⟨g, n, h1, h2.low (by show w.heap.size + 2 ≤ w5.heap.size; have := F5.out.hi; omega), F5.out.next d0, (h3.cell (p := ⟨w.heap.size + 1 + 1, 1, none⟩) (by show _ < w5.heap.size; exact F5.out.hi)).trans R5.out.c1⟩
        have r5 : w5.cell? ⟨w.heap.size + 1 + 1, 1, none⟩ = some (.int .i64 ((t.size - rr.length : Nat) : Int)) := R5.out.c1
        have HN : Hid (((t.size - rr.length : Nat) : Int) = (t.size : Int) - (rr.length : Int)) := by show _ = _; omega
        generalize ((t.size - rr.length : Nat) : Int) = N at hun r5 HN
        clear hun0 F5 H5 R5 hmf hqf hbf hc3 hm3 h32
        go_wp2
        refine wp_calm ?_
        go_region_with (go_at_call 52; refine hun.mono ?_; rintro e w6 ⟨g, n6, rfl, h6, f6, r6⟩; have H6 : Hid (HasF w6 (w.heap.size + 2) (.slice (some ⟨g, 0, none⟩) n6 n6) (woB l)) := h6; have F6 : Hid (FrQ w w6) := f6; have c0 := f6.q.c0; have c1 := f6.q.c1; have c2 := f6.q.c2; have c3 := f6.q.c3; have fz := f6.q.fz; have cc := f6.c; have cf := f6.f; clear h6 f6)
        all_goals
          clear c0 c1 c2 c3 fz cc cf r6
          go_wp2
          exact doneQ (r := ⟨A1, A2, woB l, rb⟩) F6.out H6.out (by rw [HP.out, ← HN.out]) rfl rfl rfl
      · exact leaveQ F5.out (HRR.out rk hk0 rfl) rfl rfl rfl
theorem implRdRq (t : ByteArray) (m : Int) (w : World) (hm : w.cell? ⟨1, 0, none⟩ = some (.int .i64 m)) (ht : t.size ≤ 1048576) :
    Calls Tryz.prog 13 #[.string t] w fun e w' => GivesQ w w' e (rdRq t.data.toList) := by
  by_cases h : ∃ x r a1 a2 a3, lnC t.data.toList = some (x, r) ∧ wrdL x = [a1, a2, a3] ∧ goodQ a1 a2 a3
  · obtain ⟨x, r, a1, a2, a3, hc, hw, hg⟩ := h
    exact implRdRq_go t m x r a1 a2 a3 w hm ht hc hw hg
  · exact implRdRq_line t m w hm ht (fun x r m g v hc hw hg => h ⟨x, r, m, g, v, hc, hw, hg⟩)
end Go.Proofs.YteibacmohplblaaGreatDoor
