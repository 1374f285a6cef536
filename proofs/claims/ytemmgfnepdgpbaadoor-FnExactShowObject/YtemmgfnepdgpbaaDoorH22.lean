/-
  The laws' own copies and comparisons of requests and responses, by their contracts.
  The laws' own copies and comparisons of objects, by their contracts.
  Rows of fields that fit; objects that came in, later on.
-/
import Derived.Test.YtemmgfnepdgpbaaDoorH21
namespace Go.Proofs.YtemmgfnepdgpbaaDoor
open Go.RowKit Go.Sort
set_option linter.unusedVariables false

theorem OwnsF.far {w : World} {B b k : Nat} {v : Value} {l : List Fl} (h : OwnsF w B v l) (hb : b < B) (x : Value) : OwnsF (w.setCell ⟨b, k, none⟩ x) B v l := by
  refine ⟨h.1, ?_⟩
  rcases h.2 with h0 | ⟨g, cap, cur, hv, hbg, hg, rest⟩
  · exact .inl h0
  · exact .inr ⟨g, cap, cur, hv, hbg, by rw [Below.heap_setCell _ _ _ _ (by show g ≠ b; omega)]; exact hg, rest⟩
def outS (r : Rs) : Rs := ⟨r.s, [], ⟨#[]⟩⟩
theorem three_rs (w : World) (r : Rs) (v : Value) :
    RsB (((w.alloc (.cells #[.int .i64 r.s, v, .string r.b] 24)).alloc (.cells #[.int .i64 0, .slice none 0 0, .string ⟨#[]⟩] 31)).alloc (.cells #[.int .i64 r.s, .slice none 0 0, .string ⟨#[]⟩] 31)) w.heap.size r v ∧
    RsB (((w.alloc (.cells #[.int .i64 r.s, v, .string r.b] 24)).alloc (.cells #[.int .i64 0, .slice none 0 0, .string ⟨#[]⟩] 31)).alloc (.cells #[.int .i64 r.s, .slice none 0 0, .string ⟨#[]⟩] 31)) (w.heap.size + 1) noS (.slice none 0 0) ∧
    RsB (((w.alloc (.cells #[.int .i64 r.s, v, .string r.b] 24)).alloc (.cells #[.int .i64 0, .slice none 0 0, .string ⟨#[]⟩] 31)).alloc (.cells #[.int .i64 r.s, .slice none 0 0, .string ⟨#[]⟩] 31)) (w.heap.size + 1 + 1) (outS r) (.slice none 0 0) ∧
    Below w.heap.size w (((w.alloc (.cells #[.int .i64 r.s, v, .string r.b] 24)).alloc (.cells #[.int .i64 0, .slice none 0 0, .string ⟨#[]⟩] 31)).alloc (.cells #[.int .i64 r.s, .slice none 0 0, .string ⟨#[]⟩] 31)) ∧
    (((w.alloc (.cells #[.int .i64 r.s, v, .string r.b] 24)).alloc (.cells #[.int .i64 0, .slice none 0 0, .string ⟨#[]⟩] 31)).alloc (.cells #[.int .i64 r.s, .slice none 0 0, .string ⟨#[]⟩] 31)).heap.size = w.heap.size + 3 := by
  refine ⟨((RsB.new w r v _).alloc _).alloc _, ?_, ?_, ?_, by simp⟩
  · have := RsB.new (w.alloc (.cells #[.int .i64 r.s, v, .string r.b] 24)) noS (.slice none 0 0) 31
    rw [show (w.alloc (.cells #[.int .i64 r.s, v, .string r.b] 24)).heap.size = w.heap.size + 1 by simp] at this
    exact this.alloc _
  · have := RsB.new ((w.alloc (.cells #[.int .i64 r.s, v, .string r.b] 24)).alloc (.cells #[.int .i64 0, .slice none 0 0, .string ⟨#[]⟩] 31)) (outS r) (.slice none 0 0) 31
    rw [show ((w.alloc (.cells #[.int .i64 r.s, v, .string r.b] 24)).alloc (.cells #[.int .i64 0, .slice none 0 0, .string ⟨#[]⟩] 31)).heap.size = w.heap.size + 1 + 1 by simp] at this
    exact this
  · exact (((Below.refl _ w).alloc (Nat.le_refl _) _).alloc (by simp) _).alloc (by simp; omega) _
set_option maxHeartbeats 1000000 in
theorem lawToRs (r : Rs) (v : Value) (w : World) (h : Fls w v r.l) (hl : r.l.length ≤ 1048576) :
    Calls Tryd.prog 17 #[rsV r v] w fun e w' => ∃ u, e = .returned (rsV r u) ∧ OwnsF w' w.heap.size u r.l ∧ Below w.heap.size w w' := by
  have hfs := h
  obtain ⟨a, cap, rfl, hcap⟩ := hfs
  clear hcap
  unfold rsV
  obtain ⟨q0, q1, q2, q3, q4⟩ := three_rs w r (.slice a r.l.length cap)
  have HC := toFS _ r.l _ (h.kept q3) hl
  have Q0 : Hid _ := q0
  have Q1 : Hid _ := q1
  have Q2 : Hid _ := q2
  have Q3 : Hid _ := q3
  have Q4 : Hid _ := q4
  clear h q0 q1 q2 q3 q4
  go_enter Tryd.func17, Tryd.ntmps17
  go_wp2_with fail
  refine HC.mono ?_
  rintro e w4 ⟨u, rfl, ho, hb4⟩
  have B4 : Hid (Below w.heap.size w w4) := past6 Q3.out hb4
  have s0 : Hid (RsB w4 w.heap.size r (.slice a r.l.length cap)) := Q0.out.next hb4
  have s1 : Hid (RsB w4 (w.heap.size + 1) noS (.slice none 0 0)) := Q1.out.next hb4
  have s2 : Hid (RsB w4 (w.heap.size + 1 + 1) (outS r) (.slice none 0 0)) := Q2.out.next hb4
  rw [Q4.out] at ho
  obtain ⟨A2, cap2, rfl, hcl, hcm⟩ := ho.form
  have HO : Hid (OwnsF w4 (w.heap.size + 3) (.slice A2 r.l.length cap2) r.l) := ho
  clear ho HC Q0 Q1 Q2 Q3 Q4 hb4
  have a2 := s0.out.c2
  have z0 := s1.out.c0
  have z1 := s1.out.c1
  have z2 := s1.out.c2
  have zf := s1.out.fz
  have o0 : w4.cell? ⟨w.heap.size + 1 + 1, 0, none⟩ = some (.int .i64 r.s) := s2.out.c0
  have o1 := s2.out.c1
  have o2 := s2.out.c2
  have of := s2.out.fz
  clear s0 s1 s2
  go_wp2
  refine bodyPost_ret (v := .agg #[.int .i64 r.s, .slice A2 r.l.length cap2, .string r.b]) (by simp [results, Tryd.results17, go_sem, z0, z1, z2]) rfl ⟨_, rfl, ?_, ?_⟩
  · refine OwnsF.low (B := w.heap.size + 3) ?_ (by omega)
    repeat (refine OwnsF.far ?_ (by omega) _)
    exact HO.out
  · repeat (refine Below.setCell ?_ (by simp <;> omega) _)
    exact B4.out
set_option maxHeartbeats 1000000 in
theorem lawEqRs (r : Rs) (va vb : Value) (w : World) (ha : Fls w va r.l) (hb : Fls w vb r.l) (hl : r.l.length ≤ 1048576) :
    Calls Tryd.prog 22 #[rsV r va, rsV r vb] w fun e w' => e = .returned (.bool true) ∧ Below w.heap.size w w' := by
  have hfa := ha
  have hfb := hb
  obtain ⟨a, ca, rfl, _⟩ := hfa
  obtain ⟨b, cb, rfl, _⟩ := hfb
  unfold rsV
  have B0 : Below w.heap.size w ((w.alloc (.cells #[.int .i64 r.s, .slice a r.l.length ca, .string r.b] 31)).alloc (.cells #[.int .i64 r.s, .slice b r.l.length cb, .string r.b] 31)) := ((Below.refl _ w).alloc (Nat.le_refl _) _).alloc (by simp) _
  have hq := eqFS _ _ r.l _ (ha.kept B0) (hb.kept B0) hl
  have P0 : Hid (RsB ((w.alloc (.cells #[.int .i64 r.s, .slice a r.l.length ca, .string r.b] 31)).alloc (.cells #[.int .i64 r.s, .slice b r.l.length cb, .string r.b] 31)) w.heap.size r (.slice a r.l.length ca)) := (RsB.new w r _ _).alloc _
  have P1 : Hid (RsB ((w.alloc (.cells #[.int .i64 r.s, .slice a r.l.length ca, .string r.b] 31)).alloc (.cells #[.int .i64 r.s, .slice b r.l.length cb, .string r.b] 31)) (w.heap.size + 1) r (.slice b r.l.length cb)) := by
    have := RsB.new (w.alloc (.cells #[.int .i64 r.s, .slice a r.l.length ca, .string r.b] 31)) r (.slice b r.l.length cb) 31
    rw [show (w.alloc (.cells #[.int .i64 r.s, .slice a r.l.length ca, .string r.b] 31)).heap.size = w.heap.size + 1 by simp] at this
    exact this
  have HB : Hid _ := B0
  clear ha hb B0
  go_enter Tryd.func22, Tryd.ntmps22
  go_wp2_with fail
  refine hq.mono ?_
  rintro e w1 ⟨rfl, hg⟩
  have S0 : Hid (RsB w1 w.heap.size r (.slice a r.l.length ca)) := P0.out.next hg.low
  have S1 : Hid (RsB w1 (w.heap.size + 1) r (.slice b r.l.length cb)) := P1.out.next hg.low
  have B1 : Hid (Below w.heap.size w w1) := past6 HB.out hg.low
  have a2 := S0.out.c2
  have b2 := S1.out.c2
  clear P0 P1 HB hg hq S0 S1
  go_wp2
  go_ret
  exact ⟨rfl, B1.out⟩
end Go.Proofs.YtemmgfnepdgpbaaDoor
namespace Go.Proofs.YtemmgfnepdgpbaaDoor
open Go.RowKit Go.Sort
set_option linter.unusedVariables false

def noO : Ob := ⟨⟨#[]⟩, [], noS, 0, 0, 0⟩
def outO (o : Ob) : Ob := ⟨o.k, [], noS, 0, 0, 0⟩
theorem ObB.alloc {w : World} {b : Nat} {o : Ob} {v u : Value} (h : ObB w b o v u) (x : Obj) : ObB (w.alloc x) b o v u := h.next ((Below.refl _ w).alloc (Nat.le_refl _) _)
theorem ObB.put1 {w : World} {b : Nat} {o : Ob} {v u : Value} (h : ObB w b o v u) (x : Value) : ObB (w.setCell ⟨b, 1, none⟩ x) b o x u where
  c0 := by rw [World.cell?_setCell_other _ _ _ _ (by simp)]; exact h.c0
  c1 := World.cell?_setCell_same _ _ _ h.c1
  c2 := by rw [World.cell?_setCell_other _ _ _ _ (by simp)]; exact h.c2
  c3 := by rw [World.cell?_setCell_other _ _ _ _ (by simp)]; exact h.c3
  c4 := by rw [World.cell?_setCell_other _ _ _ _ (by simp)]; exact h.c4
  c5 := by rw [World.cell?_setCell_other _ _ _ _ (by simp)]; exact h.c5
  c6 := by rw [World.cell?_setCell_other _ _ _ _ (by simp)]; exact h.c6
  c7 := by rw [World.cell?_setCell_other _ _ _ _ (by simp)]; exact h.c7
  fz := fun k => by rw [World.frozen?_setCell]; exact h.fz k
  hi := by rw [World.size_setCell]; exact h.hi
theorem ObB.far {w : World} {b c k : Nat} {o : Ob} {v u : Value} (h : ObB w b o v u) (hc : c ≠ b) (x : Value) : ObB (w.setCell ⟨c, k, none⟩ x) b o v u := by
  have e : ∀ j, (w.setCell ⟨c, k, none⟩ x).cell? ⟨b, j, none⟩ = w.cell? ⟨b, j, none⟩ := fun j => World.cell?_setCell_other _ _ _ _ (fun e => hc (by injection e))
  exact ⟨(e 0).trans h.c0, (e 1).trans h.c1, (e 2).trans h.c2, (e 3).trans h.c3, (e 4).trans h.c4, (e 5).trans h.c5, (e 6).trans h.c6, (e 7).trans h.c7, fun j => by rw [World.frozen?_setCell]; exact h.fz j, by rw [World.size_setCell]; exact h.hi⟩
abbrev wOb (w : World) (o : Ob) (v u : Value) : World := ((w.alloc (.cells #[.string o.k, v, .int .i64 o.r.s, u, .string o.r.b, .int .i64 o.asked, .int .i64 o.got, .int .i64 o.ep] 26)).alloc (.cells #[.string ⟨#[]⟩, .slice none 0 0, .int .i64 0, .slice none 0 0, .string ⟨#[]⟩, .int .i64 0, .int .i64 0, .int .i64 0] 33)).alloc (.cells #[.string o.k, .slice none 0 0, .int .i64 0, .slice none 0 0, .string ⟨#[]⟩, .int .i64 0, .int .i64 0, .int .i64 0] 33)
theorem three_ob (w : World) (o : Ob) (v u : Value) :
    ObB (wOb w o v u) w.heap.size o v u ∧ ObB (wOb w o v u) (w.heap.size + 1) noO (.slice none 0 0) (.slice none 0 0) ∧ ObB (wOb w o v u) (w.heap.size + 1 + 1) (outO o) (.slice none 0 0) (.slice none 0 0) ∧ Below w.heap.size w (wOb w o v u) ∧ (wOb w o v u).heap.size = w.heap.size + 3 := by
  refine ⟨((ObB.new w o v u _).alloc _).alloc _, ?_, ?_, ?_, by simp⟩
  · have := ObB.new (w.alloc (.cells #[.string o.k, v, .int .i64 o.r.s, u, .string o.r.b, .int .i64 o.asked, .int .i64 o.got, .int .i64 o.ep] 26)) noO (.slice none 0 0) (.slice none 0 0) 33
    rw [show (w.alloc (.cells #[.string o.k, v, .int .i64 o.r.s, u, .string o.r.b, .int .i64 o.asked, .int .i64 o.got, .int .i64 o.ep] 26)).heap.size = w.heap.size + 1 by simp] at this
    exact this.alloc _
  · have := ObB.new ((w.alloc (.cells #[.string o.k, v, .int .i64 o.r.s, u, .string o.r.b, .int .i64 o.asked, .int .i64 o.got, .int .i64 o.ep] 26)).alloc (.cells #[.string ⟨#[]⟩, .slice none 0 0, .int .i64 0, .slice none 0 0, .string ⟨#[]⟩, .int .i64 0, .int .i64 0, .int .i64 0] 33)) (outO o) (.slice none 0 0) (.slice none 0 0) 33
    rw [show ((w.alloc (.cells #[.string o.k, v, .int .i64 o.r.s, u, .string o.r.b, .int .i64 o.asked, .int .i64 o.got, .int .i64 o.ep] 26)).alloc (.cells #[.string ⟨#[]⟩, .slice none 0 0, .int .i64 0, .slice none 0 0, .string ⟨#[]⟩, .int .i64 0, .int .i64 0, .int .i64 0] 33)).heap.size = w.heap.size + 1 + 1 by simp] at this
    exact this
  · exact (((Below.refl _ w).alloc (Nat.le_refl _) _).alloc (by simp) _).alloc (by simp; omega) _
set_option maxHeartbeats 4000000 in
theorem lawToOb (o : Ob) (v u : Value) (w : World) (h : Fls w v o.l) (hr : Fls w u o.r.l) (hl : o.l.length ≤ 1048576) (hl2 : o.r.l.length ≤ 1048576) :
    Calls Tryd.prog 7 #[obV o v u] w fun e w' => ∃ v2 u2, e = .returned (obV o v2 u2) ∧ OwnsF w' w.heap.size v2 o.l ∧ OwnsF w' w.heap.size u2 o.r.l ∧ (∀ g, v2.ownBlock = some g → u2.ownBlock ≠ some g) ∧ Below w.heap.size w w' := by
  have hfs := h
  obtain ⟨va, vc, rfl, hcap⟩ := hfs
  clear hcap
  have hrs := hr
  obtain ⟨ua, uc, rfl, hcap⟩ := hrs
  clear hcap
  unfold obV
  obtain ⟨q0, q1, q2, q3, q4⟩ := three_ob w o (.slice va o.l.length vc) (.slice ua o.r.l.length uc)
  have HC := toFS _ o.l _ (h.kept q3) hl
  have HR : Hid (Fls w (.slice ua o.r.l.length uc) o.r.l) := hr
  have j2 := fun W hW => lawToRs o.r (.slice ua o.r.l.length uc) W hW hl2
  unfold rsV at j2
  have Q0 : Hid _ := q0
  have Q1 : Hid _ := q1
  have Q2 : Hid _ := q2
  have Q3 : Hid _ := q3
  have Q4 : Hid _ := q4
  clear h hr q0 q1 q2 q3 q4
  go_enter Tryd.func7, Tryd.ntmps7
  go_wp2_with fail
  refine HC.mono ?_
  rintro e w4 ⟨v2, rfl, ho, hb4⟩
  have B4 : Hid (Below w.heap.size w w4) := past6 Q3.out hb4
  have s0 : Hid (ObB w4 w.heap.size o (.slice va o.l.length vc) (.slice ua o.r.l.length uc)) := Q0.out.next hb4
  have s1 : Hid (ObB w4 (w.heap.size + 1) noO (.slice none 0 0) (.slice none 0 0)) := Q1.out.next hb4
  have s2 : Hid (ObB w4 (w.heap.size + 1 + 1) (outO o) (.slice none 0 0) (.slice none 0 0)) := Q2.out.next hb4
  rw [Q4.out] at ho
  have hsz : w.heap.size + 3 ≤ w4.heap.size := by have := hb4.size; rw [Q4.out] at this; exact this
  obtain ⟨A2, cap2, rfl, hcl, hcm⟩ := ho.form
  have HO : Hid (OwnsF w4 (w.heap.size + 3) (.slice A2 o.l.length cap2) o.l) := ho
  clear ho HC Q0 Q1 Q2 Q3 Q4 hb4
  have B5 : Hid (Below w.heap.size w (w4.setCell ⟨w.heap.size + 1 + 1, 1, none⟩ (.slice A2 o.l.length cap2))) := B4.out.setCell (by simp <;> omega) _
  have t0 : Hid (ObB (w4.setCell ⟨w.heap.size + 1 + 1, 1, none⟩ (.slice A2 o.l.length cap2)) w.heap.size o (.slice va o.l.length vc) (.slice ua o.r.l.length uc)) := s0.out.far (by omega) _
  have t1 : Hid (ObB (w4.setCell ⟨w.heap.size + 1 + 1, 1, none⟩ (.slice A2 o.l.length cap2)) (w.heap.size + 1) noO (.slice none 0 0) (.slice none 0 0)) := s1.out.far (by omega) _
  have t2 : Hid (ObB (w4.setCell ⟨w.heap.size + 1 + 1, 1, none⟩ (.slice A2 o.l.length cap2)) (w.heap.size + 1 + 1) (outO o) (.slice A2 o.l.length cap2) (.slice none 0 0)) := s2.out.put1 _
  have HO5 : Hid (OwnsF (w4.setCell ⟨w.heap.size + 1 + 1, 1, none⟩ (.slice A2 o.l.length cap2)) (w.heap.size + 3) (.slice A2 o.l.length cap2) o.l) := HO.out.far (by omega) _
  have hs5 : Hid ((w4.setCell ⟨w.heap.size + 1 + 1, 1, none⟩ (.slice A2 o.l.length cap2)).heap.size = w4.heap.size) := World.size_setCell ..
  have a2 := s0.out.c2
  have a3 := s0.out.c3
  have a4 := s0.out.c4
  have o1 := s2.out.c1
  have of := s2.out.fz
  go_wp2_with fail
  refine (j2 _ (HR.out.kept B5.out)).mono ?_
  rintro e w6 ⟨u2, rfl, ho2, hb6⟩
  have B6 : Hid (Below w.heap.size w w6) := past6 B5.out hb6
  have r0 : Hid (ObB w6 w.heap.size o (.slice va o.l.length vc) (.slice ua o.r.l.length uc)) := t0.out.next hb6
  have r1 : Hid (ObB w6 (w.heap.size + 1) noO (.slice none 0 0) (.slice none 0 0)) := t1.out.next hb6
  have r2 : Hid (ObB w6 (w.heap.size + 1 + 1) (outO o) (.slice A2 o.l.length cap2) (.slice none 0 0)) := t2.out.next hb6
  have HO6 : Hid (OwnsF w6 (w.heap.size + 3) (.slice A2 o.l.length cap2) o.l) := HO5.out.kept hb6
  rw [hs5.out] at ho2
  have hne : Hid (∀ g, (Value.slice A2 o.l.length cap2).ownBlock = some g → u2.ownBlock ≠ some g) := fun g h1 h2 => by
    have h3 := HO.out.under g h1
    have h4 := ho2.from g h2
    omega
  obtain ⟨A3, cap3, rfl, hcl3, hcm3⟩ := ho2.form
  have HU6 : Hid (OwnsF w6 (w.heap.size + 3) (.slice A3 o.r.l.length cap3) o.r.l) := ho2.low hsz
  clear ho2 hb6 B4 B5 s0 s1 s2 t0 t1 t2 HO HO5 hs5 a2 a3 a4 o1 of j2 HR
  have a5 := r0.out.c5
  have a6 := r0.out.c6
  have a7 := r0.out.c7
  have z0 := r1.out.c0
  have z1 := r1.out.c1
  have z2 := r1.out.c2
  have z3 := r1.out.c3
  have z4 := r1.out.c4
  have z5 := r1.out.c5
  have z6 := r1.out.c6
  have z7 := r1.out.c7
  have zf := r1.out.fz
  have o0 : w6.cell? ⟨w.heap.size + 1 + 1, 0, none⟩ = some (.string o.k) := r2.out.c0
  have o1 := r2.out.c1
  have o2 := r2.out.c2
  have o3 := r2.out.c3
  have o4 := r2.out.c4
  have o5 := r2.out.c5
  have o6 := r2.out.c6
  have o7 := r2.out.c7
  have of := r2.out.fz
  clear r0 r1 r2
  go_wp2
  refine bodyPost_ret (v := .agg #[.string o.k, .slice A2 o.l.length cap2, .int .i64 o.r.s, .slice A3 o.r.l.length cap3, .string o.r.b, .int .i64 o.asked, .int .i64 o.got, .int .i64 o.ep]) (by simp [results, Tryd.results7, go_sem, z0, z1, z2, z3, z4, z5, z6, z7]) rfl ⟨_, _, rfl, ?_, ?_, hne.out, ?_⟩
  · refine OwnsF.low (B := w.heap.size + 3) ?_ (by omega)
    repeat (refine OwnsF.far ?_ (by omega) _)
    exact HO6.out
  · refine OwnsF.low (B := w.heap.size + 3) ?_ (by omega)
    repeat (refine OwnsF.far ?_ (by omega) _)
    exact HU6.out
  · repeat (refine Below.setCell ?_ (by simp <;> omega) _)
    exact B6.out
set_option maxHeartbeats 4000000 in
theorem lawEqOb (o : Ob) (va vb ua ub : Value) (w : World) (ha : Fls w va o.l) (hb : Fls w vb o.l) (ra : Fls w ua o.r.l) (rb : Fls w ub o.r.l) (hl : o.l.length ≤ 1048576) (hl2 : o.r.l.length ≤ 1048576) (hk : o.k.size ≤ 1048576) :
    Calls Tryd.prog 9 #[obV o va ua, obV o vb ub] w fun e w' => e = .returned (.bool true) ∧ Below w.heap.size w w' := by
  have hfa := ha
  have hfb := hb
  have hga := ra
  have hgb := rb
  obtain ⟨a, ca, rfl, _⟩ := hfa
  obtain ⟨b, cb, rfl, _⟩ := hfb
  obtain ⟨c, cc, rfl, _⟩ := hga
  obtain ⟨d, cd, rfl, _⟩ := hgb
  unfold obV
  have B0 : Below w.heap.size w ((w.alloc (.cells #[.string o.k, .slice a o.l.length ca, .int .i64 o.r.s, .slice c o.r.l.length cc, .string o.r.b, .int .i64 o.asked, .int .i64 o.got, .int .i64 o.ep] 33)).alloc (.cells #[.string o.k, .slice b o.l.length cb, .int .i64 o.r.s, .slice d o.r.l.length cd, .string o.r.b, .int .i64 o.asked, .int .i64 o.got, .int .i64 o.ep] 33)) := ((Below.refl _ w).alloc (Nat.le_refl _) _).alloc (by simp) _
  have hq := eqFS _ _ o.l _ (ha.kept B0) (hb.kept B0) hl
  have j2 := fun W h1 h2 => lawEqRs o.r (.slice c o.r.l.length cc) (.slice d o.r.l.length cd) W h1 h2 hl2
  unfold rsV at j2
  have RA : Hid (Fls w (.slice c o.r.l.length cc) o.r.l) := ra
  have RB : Hid (Fls w (.slice d o.r.l.length cd) o.r.l) := rb
  have P0 : Hid (ObB ((w.alloc (.cells #[.string o.k, .slice a o.l.length ca, .int .i64 o.r.s, .slice c o.r.l.length cc, .string o.r.b, .int .i64 o.asked, .int .i64 o.got, .int .i64 o.ep] 33)).alloc (.cells #[.string o.k, .slice b o.l.length cb, .int .i64 o.r.s, .slice d o.r.l.length cd, .string o.r.b, .int .i64 o.asked, .int .i64 o.got, .int .i64 o.ep] 33)) w.heap.size o (.slice a o.l.length ca) (.slice c o.r.l.length cc)) := (ObB.new w o _ _ _).alloc _
  have P1 : Hid (ObB ((w.alloc (.cells #[.string o.k, .slice a o.l.length ca, .int .i64 o.r.s, .slice c o.r.l.length cc, .string o.r.b, .int .i64 o.asked, .int .i64 o.got, .int .i64 o.ep] 33)).alloc (.cells #[.string o.k, .slice b o.l.length cb, .int .i64 o.r.s, .slice d o.r.l.length cd, .string o.r.b, .int .i64 o.asked, .int .i64 o.got, .int .i64 o.ep] 33)) (w.heap.size + 1) o (.slice b o.l.length cb) (.slice d o.r.l.length cd)) := by
    have := ObB.new (w.alloc (.cells #[.string o.k, .slice a o.l.length ca, .int .i64 o.r.s, .slice c o.r.l.length cc, .string o.r.b, .int .i64 o.asked, .int .i64 o.got, .int .i64 o.ep] 33)) o (.slice b o.l.length cb) (.slice d o.r.l.length cd) 33
    rw [show (w.alloc (.cells #[.string o.k, .slice a o.l.length ca, .int .i64 o.r.s, .slice c o.r.l.length cc, .string o.r.b, .int .i64 o.asked, .int .i64 o.got, .int .i64 o.ep] 33)).heap.size = w.heap.size + 1 by simp] at this
    exact this
  have HB : Hid _ := B0
  clear ha hb ra rb B0
  go_enter Tryd.func9, Tryd.ntmps9
  go_wp2_with fail
  refine hq.mono ?_
  rintro e w1 ⟨rfl, hg⟩
  have S0 : Hid (ObB w1 w.heap.size o (.slice a o.l.length ca) (.slice c o.r.l.length cc)) := P0.out.next hg.low
  have S1 : Hid (ObB w1 (w.heap.size + 1) o (.slice b o.l.length cb) (.slice d o.r.l.length cd)) := P1.out.next hg.low
  have B1 : Hid (Below w.heap.size w w1) := past6 HB.out hg.low
  clear P0 P1 HB hg hq
  have a2 := S0.out.c2
  have a3 := S0.out.c3
  have a4 := S0.out.c4
  have b2 := S1.out.c2
  have b3 := S1.out.c3
  have b4 := S1.out.c4
  go_wp2_with fail
  refine (j2 _ (RA.out.kept B1.out) (RB.out.kept B1.out)).mono ?_
  rintro e w2 ⟨rfl, hb2⟩
  have T0 : Hid (ObB w2 w.heap.size o (.slice a o.l.length ca) (.slice c o.r.l.length cc)) := S0.out.next hb2
  have T1 : Hid (ObB w2 (w.heap.size + 1) o (.slice b o.l.length cb) (.slice d o.r.l.length cd)) := S1.out.next hb2
  have B2 : Hid (Below w.heap.size w w2) := past6 B1.out hb2
  clear hb2 B1 S0 S1 a2 a3 a4 b2 b3 b4 RA RB j2
  have a5 := T0.out.c5
  have a6 := T0.out.c6
  have a7 := T0.out.c7
  have b5 := T1.out.c5
  have b6 := T1.out.c6
  have b7 := T1.out.c7
  clear T0 T1
  go_wp2
  go_ret
  exact ⟨rfl, B2.out⟩
end Go.Proofs.YtemmgfnepdgpbaaDoor
namespace Go.Proofs.YtemmgfnepdgpbaaDoor
open Go.RowKit Go.Sort
set_option linter.unusedVariables false

theorem OwnsF.solid10 {w : World} {B : Nat} {v : Value} {l : List Fl} (h : OwnsF w B v l) : Solid v := by
  rcases h.2 with ⟨h0, _⟩ | ⟨g, cap, cur, hv, _⟩
  · rw [h0]; intro n c e; injection e with _ _ e; exact e.symm
  · rw [hv]; intro n c e; injection e with e _ _; cases e
theorem OwnsF.fits10 {w : World} {B : Nat} {v : Value} {l : List Fl} (h : OwnsF w B v l) (h1 : szL l ≤ 1048576) (h2 : l.length ≤ 1048576) : Fits w v l := ⟨h.fls, h1, h2, h.solid10⟩
theorem RsGot.kept10 {w w' : World} {v : Value} {r : Rs} (h : RsGot w v r) (hb : Below w.heap.size w w') : RsGot w' v r := ⟨h.1.kept hb, h.2⟩
theorem ObGot.kept {w w' : World} {v u : Value} {o : Ob} (h : ObGot w v u o) (hb : Below w.heap.size w w') : ObGot w' v u o := ⟨h.1.kept hb, h.2.1, h.2.2.1, h.2.2.2.1.kept10 hb, h.2.2.2.2⟩
/-- The two rows of fields of an object. -/
def TwoF (w : World) (v u : Value) (o : Ob) : Prop := Fls w v o.l ∧ Fls w u o.r.l
theorem TwoF.kept {w w' : World} {v u : Value} {o : Ob} (h : TwoF w v u o) (hb : Below w.heap.size w w') : TwoF w' v u o := ⟨h.1.kept hb, h.2.kept hb⟩
end Go.Proofs.YtemmgfnepdgpbaaDoor
