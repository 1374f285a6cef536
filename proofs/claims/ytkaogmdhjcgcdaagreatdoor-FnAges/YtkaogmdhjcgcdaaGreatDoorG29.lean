/-
  The laws' own copies and comparisons of requests and responses, by their contracts.
  The laws' own copies and comparisons of objects, by their contracts.
  Rows of fields that fit; objects that came in, later on.
  The walks of the exact laws of policy at one response or one object, given what the program's own function answers.
  The specification's policy by its contracts: whether an object is fresh, what is to be done.
  The specification's Storable by its contract.
  The walk of the exact law of Storable, given what the program's own function answers.
-/
import Derived.Test.YtkaogmdhjcgcdaaGreatDoorG28
import Derived.Deep.RegionWith
import Derived.Lib.QuietBelow
import Derived.BigQuiet
import Derived.Deep.DeepCutAuto
namespace Go.Proofs.YtkaogmdhjcgcdaaGreatDoor
open Go.RowKit Go.Sort
set_option linter.unusedVariables false

theorem OwnsF.far {w : World} {B b k : Nat} {v : Value} {l : List Fl} (h : OwnsF w B v l) (hb : b < B) (x : Value) : OwnsF (w.setCell ⟨b, k, none⟩ x) B v l := by
  refine ⟨h.1, ?_⟩
  rcases h.2 with h0 | ⟨g, cap, cur, hv, hbg, hg, rest⟩
  · exact .inl h0
  · exact .inr ⟨g, cap, cur, hv, hbg, by rw [Below.heap_setCell _ _ _ _ (by show g ≠ b; omega)]; exact hg, rest⟩
def outS (r : Rs) : Rs := ⟨r.s, [], ⟨#[]⟩⟩
theorem three_rs (w : World) (r : Rs) (v : Value) :
    RsB (((w.alloc (.cells #[.int .i64 r.s, v, .string r.b] 54)).alloc (.cells #[.int .i64 0, .slice none 0 0, .string ⟨#[]⟩] 26)).alloc (.cells #[.int .i64 r.s, .slice none 0 0, .string ⟨#[]⟩] 26)) w.heap.size r v ∧
    RsB (((w.alloc (.cells #[.int .i64 r.s, v, .string r.b] 54)).alloc (.cells #[.int .i64 0, .slice none 0 0, .string ⟨#[]⟩] 26)).alloc (.cells #[.int .i64 r.s, .slice none 0 0, .string ⟨#[]⟩] 26)) (w.heap.size + 1) noS (.slice none 0 0) ∧
    RsB (((w.alloc (.cells #[.int .i64 r.s, v, .string r.b] 54)).alloc (.cells #[.int .i64 0, .slice none 0 0, .string ⟨#[]⟩] 26)).alloc (.cells #[.int .i64 r.s, .slice none 0 0, .string ⟨#[]⟩] 26)) (w.heap.size + 1 + 1) (outS r) (.slice none 0 0) ∧
    Below w.heap.size w (((w.alloc (.cells #[.int .i64 r.s, v, .string r.b] 54)).alloc (.cells #[.int .i64 0, .slice none 0 0, .string ⟨#[]⟩] 26)).alloc (.cells #[.int .i64 r.s, .slice none 0 0, .string ⟨#[]⟩] 26)) ∧
    (((w.alloc (.cells #[.int .i64 r.s, v, .string r.b] 54)).alloc (.cells #[.int .i64 0, .slice none 0 0, .string ⟨#[]⟩] 26)).alloc (.cells #[.int .i64 r.s, .slice none 0 0, .string ⟨#[]⟩] 26)).heap.size = w.heap.size + 3 := by
  refine ⟨((RsB.new w r v _).alloc _).alloc _, ?_, ?_, ?_, by simp⟩
  · have := RsB.new (w.alloc (.cells #[.int .i64 r.s, v, .string r.b] 54)) noS (.slice none 0 0) 26
    rw [show (w.alloc (.cells #[.int .i64 r.s, v, .string r.b] 54)).heap.size = w.heap.size + 1 by simp] at this
    exact this.alloc _
  · have := RsB.new ((w.alloc (.cells #[.int .i64 r.s, v, .string r.b] 54)).alloc (.cells #[.int .i64 0, .slice none 0 0, .string ⟨#[]⟩] 26)) (outS r) (.slice none 0 0) 26
    rw [show ((w.alloc (.cells #[.int .i64 r.s, v, .string r.b] 54)).alloc (.cells #[.int .i64 0, .slice none 0 0, .string ⟨#[]⟩] 26)).heap.size = w.heap.size + 1 + 1 by simp] at this
    exact this
  · exact (((Below.refl _ w).alloc (Nat.le_refl _) _).alloc (by simp) _).alloc (by simp; omega) _
set_option maxHeartbeats 1000000 in
theorem lawToRs (r : Rs) (v : Value) (w : World) (h : Fls w v r.l) (hl : r.l.length ≤ 1048576) :
    Calls Tryz.prog 36 #[rsV r v] w fun e w' => ∃ u, e = .returned (rsV r u) ∧ OwnsF w' w.heap.size u r.l ∧ Below w.heap.size w w' := by
  have hfs := h
  obtain ⟨a, cap, rfl, hcap⟩ := hfs
  clear hcap
  unfold rsV
  obtain ⟨q0, q1, q2, q3, q4⟩ := three_rs w r (.slice a r.l.length cap)
  have HC := toFS _ r.l _ (h.kept q3) hl
  have Q0 : Hid _ := q0
  have Q1 : Hid _ := q1
  have Q2 : Hid _ := q2
  have Q3 : Hid _ := q3
  have Q4 : Hid _ := q4
  clear h q0 q1 q2 q3 q4
  go_enter Tryz.func36, Tryz.ntmps36
  go_wp2_with fail
  refine HC.mono ?_
  rintro e w4 ⟨u, rfl, ho, hb4⟩
  have B4 : Hid (Below w.heap.size w w4) := past6 Q3.out hb4
  have s0 : Hid (RsB w4 w.heap.size r (.slice a r.l.length cap)) := Q0.out.next hb4
  have s1 : Hid (RsB w4 (w.heap.size + 1) noS (.slice none 0 0)) := Q1.out.next hb4
  have s2 : Hid (RsB w4 (w.heap.size + 1 + 1) (outS r) (.slice none 0 0)) := Q2.out.next hb4
  rw [Q4.out] at ho
  obtain ⟨A2, cap2, rfl, hcl, hcm⟩ := ho.form
  have HO : Hid (OwnsF w4 (w.heap.size + 3) (.slice A2 r.l.length cap2) r.l) := ho
  clear ho HC Q0 Q1 Q2 Q3 Q4 hb4
  have a2 := s0.out.c2
  have z0 := s1.out.c0
  have z1 := s1.out.c1
  have z2 := s1.out.c2
  have zf := s1.out.fz
  have o0 : w4.cell? ⟨w.heap.size + 1 + 1, 0, none⟩ = some (.int .i64 r.s) := s2.out.c0
  have o1 := s2.out.c1
  have o2 := s2.out.c2
  have of := s2.out.fz
  clear s0 s1 s2
  go_wp2
  refine bodyPost_ret (v := .agg #[.int .i64 r.s, .slice A2 r.l.length cap2, .string r.b]) (by simp [results, Tryz.results36, go_sem, z0, z1, z2]) rfl ⟨_, rfl, ?_, ?_⟩
  · refine OwnsF.low (B := w.heap.size + 3) ?_ (by omega)
    repeat (refine OwnsF.far ?_ (by omega) _)
    exact HO.out
  · repeat (refine Below.setCell ?_ (by simp <;> omega) _)
    exact B4.out
set_option maxHeartbeats 1000000 in
theorem lawEqRs (r : Rs) (va vb : Value) (w : World) (ha : Fls w va r.l) (hb : Fls w vb r.l) (hl : r.l.length ≤ 1048576) :
    Calls Tryz.prog 38 #[rsV r va, rsV r vb] w fun e w' => e = .returned (.bool true) ∧ Below w.heap.size w w' := by
  have hfa := ha
  have hfb := hb
  obtain ⟨a, ca, rfl, _⟩ := hfa
  obtain ⟨b, cb, rfl, _⟩ := hfb
  unfold rsV
  have B0 : Below w.heap.size w ((w.alloc (.cells #[.int .i64 r.s, .slice a r.l.length ca, .string r.b] 26)).alloc (.cells #[.int .i64 r.s, .slice b r.l.length cb, .string r.b] 26)) := ((Below.refl _ w).alloc (Nat.le_refl _) _).alloc (by simp) _
  have hq := eqFS _ _ r.l _ (ha.kept B0) (hb.kept B0) hl
  have P0 : Hid (RsB ((w.alloc (.cells #[.int .i64 r.s, .slice a r.l.length ca, .string r.b] 26)).alloc (.cells #[.int .i64 r.s, .slice b r.l.length cb, .string r.b] 26)) w.heap.size r (.slice a r.l.length ca)) := (RsB.new w r _ _).alloc _
  have P1 : Hid (RsB ((w.alloc (.cells #[.int .i64 r.s, .slice a r.l.length ca, .string r.b] 26)).alloc (.cells #[.int .i64 r.s, .slice b r.l.length cb, .string r.b] 26)) (w.heap.size + 1) r (.slice b r.l.length cb)) := by
    have := RsB.new (w.alloc (.cells #[.int .i64 r.s, .slice a r.l.length ca, .string r.b] 26)) r (.slice b r.l.length cb) 26
    rw [show (w.alloc (.cells #[.int .i64 r.s, .slice a r.l.length ca, .string r.b] 26)).heap.size = w.heap.size + 1 by simp] at this
    exact this
  have HB : Hid _ := B0
  clear ha hb B0
  go_enter Tryz.func38, Tryz.ntmps38
  go_wp2_with fail
  refine hq.mono ?_
  rintro e w1 ⟨rfl, hg⟩
  have S0 : Hid (RsB w1 w.heap.size r (.slice a r.l.length ca)) := P0.out.next hg.low
  have S1 : Hid (RsB w1 (w.heap.size + 1) r (.slice b r.l.length cb)) := P1.out.next hg.low
  have B1 : Hid (Below w.heap.size w w1) := past6 HB.out hg.low
  have a2 := S0.out.c2
  have b2 := S1.out.c2
  clear P0 P1 HB hg hq S0 S1
  go_wp2
  go_ret
  exact ⟨rfl, B1.out⟩
end Go.Proofs.YtkaogmdhjcgcdaaGreatDoor
namespace Go.Proofs.YtkaogmdhjcgcdaaGreatDoor
open Go.RowKit Go.Sort
set_option linter.unusedVariables false

def noO : Ob := ⟨⟨#[]⟩, [], noS, 0, 0, 0⟩
def outO (o : Ob) : Ob := ⟨o.k, [], noS, 0, 0, 0⟩
theorem ObB.alloc {w : World} {b : Nat} {o : Ob} {v u : Value} (h : ObB w b o v u) (x : Obj) : ObB (w.alloc x) b o v u := h.next ((Below.refl _ w).alloc (Nat.le_refl _) _)
theorem ObB.put1 {w : World} {b : Nat} {o : Ob} {v u : Value} (h : ObB w b o v u) (x : Value) : ObB (w.setCell ⟨b, 1, none⟩ x) b o x u where
  c0 := by rw [World.cell?_setCell_other _ _ _ _ (by simp)]; exact h.c0
  c1 := World.cell?_setCell_same _ _ _ h.c1
  c2 := by rw [World.cell?_setCell_other _ _ _ _ (by simp)]; exact h.c2
  c3 := by rw [World.cell?_setCell_other _ _ _ _ (by simp)]; exact h.c3
  c4 := by rw [World.cell?_setCell_other _ _ _ _ (by simp)]; exact h.c4
  c5 := by rw [World.cell?_setCell_other _ _ _ _ (by simp)]; exact h.c5
  c6 := by rw [World.cell?_setCell_other _ _ _ _ (by simp)]; exact h.c6
  c7 := by rw [World.cell?_setCell_other _ _ _ _ (by simp)]; exact h.c7
  fz := fun k => by rw [World.frozen?_setCell]; exact h.fz k
  hi := by rw [World.size_setCell]; exact h.hi
theorem ObB.far {w : World} {b c k : Nat} {o : Ob} {v u : Value} (h : ObB w b o v u) (hc : c ≠ b) (x : Value) : ObB (w.setCell ⟨c, k, none⟩ x) b o v u := by
  have e : ∀ j, (w.setCell ⟨c, k, none⟩ x).cell? ⟨b, j, none⟩ = w.cell? ⟨b, j, none⟩ := fun j => World.cell?_setCell_other _ _ _ _ (fun e => hc (by injection e))
  exact ⟨(e 0).trans h.c0, (e 1).trans h.c1, (e 2).trans h.c2, (e 3).trans h.c3, (e 4).trans h.c4, (e 5).trans h.c5, (e 6).trans h.c6, (e 7).trans h.c7, fun j => by rw [World.frozen?_setCell]; exact h.fz j, by rw [World.size_setCell]; exact h.hi⟩
abbrev wOb (w : World) (o : Ob) (v u : Value) : World := ((w.alloc (.cells #[.string o.k, v, .int .i64 o.r.s, u, .string o.r.b, .int .i64 o.asked, .int .i64 o.got, .int .i64 o.ep] 64)).alloc (.cells #[.string ⟨#[]⟩, .slice none 0 0, .int .i64 0, .slice none 0 0, .string ⟨#[]⟩, .int .i64 0, .int .i64 0, .int .i64 0] 28)).alloc (.cells #[.string o.k, .slice none 0 0, .int .i64 0, .slice none 0 0, .string ⟨#[]⟩, .int .i64 0, .int .i64 0, .int .i64 0] 28)
theorem three_ob (w : World) (o : Ob) (v u : Value) :
    ObB (wOb w o v u) w.heap.size o v u ∧ ObB (wOb w o v u) (w.heap.size + 1) noO (.slice none 0 0) (.slice none 0 0) ∧ ObB (wOb w o v u) (w.heap.size + 1 + 1) (outO o) (.slice none 0 0) (.slice none 0 0) ∧ Below w.heap.size w (wOb w o v u) ∧ (wOb w o v u).heap.size = w.heap.size + 3 := by
  refine ⟨((ObB.new w o v u _).alloc _).alloc _, ?_, ?_, ?_, by simp⟩
  · have := ObB.new (w.alloc (.cells #[.string o.k, v, .int .i64 o.r.s, u, .string o.r.b, .int .i64 o.asked, .int .i64 o.got, .int .i64 o.ep] 64)) noO (.slice none 0 0) (.slice none 0 0) 28
    rw [show (w.alloc (.cells #[.string o.k, v, .int .i64 o.r.s, u, .string o.r.b, .int .i64 o.asked, .int .i64 o.got, .int .i64 o.ep] 64)).heap.size = w.heap.size + 1 by simp] at this
    exact this.alloc _
  · have := ObB.new ((w.alloc (.cells #[.string o.k, v, .int .i64 o.r.s, u, .string o.r.b, .int .i64 o.asked, .int .i64 o.got, .int .i64 o.ep] 64)).alloc (.cells #[.string ⟨#[]⟩, .slice none 0 0, .int .i64 0, .slice none 0 0, .string ⟨#[]⟩, .int .i64 0, .int .i64 0, .int .i64 0] 28)) (outO o) (.slice none 0 0) (.slice none 0 0) 28
    rw [show ((w.alloc (.cells #[.string o.k, v, .int .i64 o.r.s, u, .string o.r.b, .int .i64 o.asked, .int .i64 o.got, .int .i64 o.ep] 64)).alloc (.cells #[.string ⟨#[]⟩, .slice none 0 0, .int .i64 0, .slice none 0 0, .string ⟨#[]⟩, .int .i64 0, .int .i64 0, .int .i64 0] 28)).heap.size = w.heap.size + 1 + 1 by simp] at this
    exact this
  · exact (((Below.refl _ w).alloc (Nat.le_refl _) _).alloc (by simp) _).alloc (by simp; omega) _
set_option maxHeartbeats 4000000 in
theorem lawToOb (o : Ob) (v u : Value) (w : World) (h : Fls w v o.l) (hr : Fls w u o.r.l) (hl : o.l.length ≤ 1048576) (hl2 : o.r.l.length ≤ 1048576) :
    Calls Tryz.prog 40 #[obV o v u] w fun e w' => ∃ v2 u2, e = .returned (obV o v2 u2) ∧ OwnsF w' w.heap.size v2 o.l ∧ OwnsF w' w.heap.size u2 o.r.l ∧ (∀ g, v2.ownBlock = some g → u2.ownBlock ≠ some g) ∧ Below w.heap.size w w' := by
  have hfs := h
  obtain ⟨va, vc, rfl, hcap⟩ := hfs
  clear hcap
  have hrs := hr
  obtain ⟨ua, uc, rfl, hcap⟩ := hrs
  clear hcap
  unfold obV
  obtain ⟨q0, q1, q2, q3, q4⟩ := three_ob w o (.slice va o.l.length vc) (.slice ua o.r.l.length uc)
  have HC := toFS _ o.l _ (h.kept q3) hl
  have HR : Hid (Fls w (.slice ua o.r.l.length uc) o.r.l) := hr
  have j2 := fun W hW => lawToRs o.r (.slice ua o.r.l.length uc) W hW hl2
  unfold rsV at j2
  have Q0 : Hid _ := q0
  have Q1 : Hid _ := q1
  have Q2 : Hid _ := q2
  have Q3 : Hid _ := q3
  have Q4 : Hid _ := q4
  clear h hr q0 q1 q2 q3 q4
  go_enter Tryz.func40, Tryz.ntmps40
  go_wp2_with fail
  refine HC.mono ?_
  rintro e w4 ⟨v2, rfl, ho, hb4⟩
  have B4 : Hid (Below w.heap.size w w4) := past6 Q3.out hb4
  have s0 : Hid (ObB w4 w.heap.size o (.slice va o.l.length vc) (.slice ua o.r.l.length uc)) := Q0.out.next hb4
  have s1 : Hid (ObB w4 (w.heap.size + 1) noO (.slice none 0 0) (.slice none 0 0)) := Q1.out.next hb4
  have s2 : Hid (ObB w4 (w.heap.size + 1 + 1) (outO o) (.slice none 0 0) (.slice none 0 0)) := Q2.out.next hb4
  rw [Q4.out] at ho
  have hsz : w.heap.size + 3 ≤ w4.heap.size := by have := hb4.size; rw [Q4.out] at this; exact this
  obtain ⟨A2, cap2, rfl, hcl, hcm⟩ := ho.form
  have HO : Hid (OwnsF w4 (w.heap.size + 3) (.slice A2 o.l.length cap2) o.l) := ho
  clear ho HC Q0 Q1 Q2 Q3 Q4 hb4
  have B5 : Hid (Below w.heap.size w (w4.setCell ⟨w.heap.size + 1 + 1, 1, none⟩ (.slice A2 o.l.length cap2))) := B4.out.setCell (by simp <;> omega) _
  have t0 : Hid (ObB (w4.setCell ⟨w.heap.size + 1 + 1, 1, none⟩ (.slice A2 o.l.length cap2)) w.heap.size o (.slice va o.l.length vc) (.slice ua o.r.l.length uc)) := s0.out.far (by omega) _
  have t1 : Hid (ObB (w4.setCell ⟨w.heap.size + 1 + 1, 1, none⟩ (.slice A2 o.l.length cap2)) (w.heap.size + 1) noO (.slice none 0 0) (.slice none 0 0)) := s1.out.far (by omega) _
  have t2 : Hid (ObB (w4.setCell ⟨w.heap.size + 1 + 1, 1, none⟩ (.slice A2 o.l.length cap2)) (w.heap.size + 1 + 1) (outO o) (.slice A2 o.l.length cap2) (.slice none 0 0)) := s2.out.put1 _
  have HO5 : Hid (OwnsF (w4.setCell ⟨w.heap.size + 1 + 1, 1, none⟩ (.slice A2 o.l.length cap2)) (w.heap.size + 3) (.slice A2 o.l.length cap2) o.l) := HO.out.far (by omega) _
  have hs5 : Hid ((w4.setCell ⟨w.heap.size + 1 + 1, 1, none⟩ (.slice A2 o.l.length cap2)).heap.size = w4.heap.size) := World.size_setCell ..
  have a2 := s0.out.c2
  have a3 := s0.out.c3
  have a4 := s0.out.c4
  have o1 := s2.out.c1
  have of := s2.out.fz
  go_wp2_with fail
  refine (j2 _ (HR.out.kept B5.out)).mono ?_
  rintro e w6 ⟨u2, rfl, ho2, hb6⟩
  have B6 : Hid (Below w.heap.size w w6) := past6 B5.out hb6
  have r0 : Hid (ObB w6 w.heap.size o (.slice va o.l.length vc) (.slice ua o.r.l.length uc)) := t0.out.next hb6
  have r1 : Hid (ObB w6 (w.heap.size + 1) noO (.slice none 0 0) (.slice none 0 0)) := t1.out.next hb6
  have r2 : Hid (ObB w6 (w.heap.size + 1 + 1) (outO o) (.slice A2 o.l.length cap2) (.slice none 0 0)) := t2.out.next hb6
  have HO6 : Hid (OwnsF w6 (w.heap.size + 3) (.slice A2 o.l.length cap2) o.l) := HO5.out.kept hb6
  rw [hs5.out] at ho2
  have hne : Hid (∀ g, (Value.slice A2 o.l.length cap2).ownBlock = some g → u2.ownBlock ≠ some g) := fun g h1 h2 => by
    have h3 := HO.out.under g h1
    have h4 := ho2.from g h2
    omega
  obtain ⟨A3, cap3, rfl, hcl3, hcm3⟩ := ho2.form
  have HU6 : Hid (OwnsF w6 (w.heap.size + 3) (.slice A3 o.r.l.length cap3) o.r.l) := ho2.low hsz
  clear ho2 hb6 B4 B5 s0 s1 s2 t0 t1 t2 HO HO5 hs5 a2 a3 a4 o1 of j2 HR
  have a5 := r0.out.c5
  have a6 := r0.out.c6
  have a7 := r0.out.c7
  have z0 := r1.out.c0
  have z1 := r1.out.c1
  have z2 := r1.out.c2
  have z3 := r1.out.c3
  have z4 := r1.out.c4
  have z5 := r1.out.c5
  have z6 := r1.out.c6
  have z7 := r1.out.c7
  have zf := r1.out.fz
  have o0 : w6.cell? ⟨w.heap.size + 1 + 1, 0, none⟩ = some (.string o.k) := r2.out.c0
  have o1 := r2.out.c1
  have o2 := r2.out.c2
  have o3 := r2.out.c3
  have o4 := r2.out.c4
  have o5 := r2.out.c5
  have o6 := r2.out.c6
  have o7 := r2.out.c7
  have of := r2.out.fz
  clear r0 r1 r2
  go_wp2
  refine bodyPost_ret (v := .agg #[.string o.k, .slice A2 o.l.length cap2, .int .i64 o.r.s, .slice A3 o.r.l.length cap3, .string o.r.b, .int .i64 o.asked, .int .i64 o.got, .int .i64 o.ep]) (by simp [results, Tryz.results40, go_sem, z0, z1, z2, z3, z4, z5, z6, z7]) rfl ⟨_, _, rfl, ?_, ?_, hne.out, ?_⟩
  · refine OwnsF.low (B := w.heap.size + 3) ?_ (by omega)
    repeat (refine OwnsF.far ?_ (by omega) _)
    exact HO6.out
  · refine OwnsF.low (B := w.heap.size + 3) ?_ (by omega)
    repeat (refine OwnsF.far ?_ (by omega) _)
    exact HU6.out
  · repeat (refine Below.setCell ?_ (by simp <;> omega) _)
    exact B6.out
set_option maxHeartbeats 4000000 in
theorem lawEqOb (o : Ob) (va vb ua ub : Value) (w : World) (ha : Fls w va o.l) (hb : Fls w vb o.l) (ra : Fls w ua o.r.l) (rb : Fls w ub o.r.l) (hl : o.l.length ≤ 1048576) (hl2 : o.r.l.length ≤ 1048576) (hk : o.k.size ≤ 1048576) :
    Calls Tryz.prog 41 #[obV o va ua, obV o vb ub] w fun e w' => e = .returned (.bool true) ∧ Below w.heap.size w w' := by
  have hfa := ha
  have hfb := hb
  have hga := ra
  have hgb := rb
  obtain ⟨a, ca, rfl, _⟩ := hfa
  obtain ⟨b, cb, rfl, _⟩ := hfb
  obtain ⟨c, cc, rfl, _⟩ := hga
  obtain ⟨d, cd, rfl, _⟩ := hgb
  unfold obV
  have B0 : Below w.heap.size w ((w.alloc (.cells #[.string o.k, .slice a o.l.length ca, .int .i64 o.r.s, .slice c o.r.l.length cc, .string o.r.b, .int .i64 o.asked, .int .i64 o.got, .int .i64 o.ep] 28)).alloc (.cells #[.string o.k, .slice b o.l.length cb, .int .i64 o.r.s, .slice d o.r.l.length cd, .string o.r.b, .int .i64 o.asked, .int .i64 o.got, .int .i64 o.ep] 28)) := ((Below.refl _ w).alloc (Nat.le_refl _) _).alloc (by simp) _
  have hq := eqFS _ _ o.l _ (ha.kept B0) (hb.kept B0) hl
  have j2 := fun W h1 h2 => lawEqRs o.r (.slice c o.r.l.length cc) (.slice d o.r.l.length cd) W h1 h2 hl2
  unfold rsV at j2
  have RA : Hid (Fls w (.slice c o.r.l.length cc) o.r.l) := ra
  have RB : Hid (Fls w (.slice d o.r.l.length cd) o.r.l) := rb
  have P0 : Hid (ObB ((w.alloc (.cells #[.string o.k, .slice a o.l.length ca, .int .i64 o.r.s, .slice c o.r.l.length cc, .string o.r.b, .int .i64 o.asked, .int .i64 o.got, .int .i64 o.ep] 28)).alloc (.cells #[.string o.k, .slice b o.l.length cb, .int .i64 o.r.s, .slice d o.r.l.length cd, .string o.r.b, .int .i64 o.asked, .int .i64 o.got, .int .i64 o.ep] 28)) w.heap.size o (.slice a o.l.length ca) (.slice c o.r.l.length cc)) := (ObB.new w o _ _ _).alloc _
  have P1 : Hid (ObB ((w.alloc (.cells #[.string o.k, .slice a o.l.length ca, .int .i64 o.r.s, .slice c o.r.l.length cc, .string o.r.b, .int .i64 o.asked, .int .i64 o.got, .int .i64 o.ep] 28)).alloc (.cells #[.string o.k, .slice b o.l.length cb, .int .i64 o.r.s, .slice d o.r.l.length cd, .string o.r.b, .int .i64 o.asked, .int .i64 o.got, .int .i64 o.ep] 28)) (w.heap.size + 1) o (.slice b o.l.length cb) (.slice d o.r.l.length cd)) := by
    have := ObB.new (w.alloc (.cells #[.string o.k, .slice a o.l.length ca, .int .i64 o.r.s, .slice c o.r.l.length cc, .string o.r.b, .int .i64 o.asked, .int .i64 o.got, .int .i64 o.ep] 28)) o (.slice b o.l.length cb) (.slice d o.r.l.length cd) 28
    rw [show (w.alloc (.cells #[.string o.k, .slice a o.l.length ca, .int .i64 o.r.s, .slice c o.r.l.length cc, .string o.r.b, .int .i64 o.asked, .int .i64 o.got, .int .i64 o.ep] 28)).heap.size = w.heap.size + 1 by simp] at this
    exact this
  have HB : Hid _ := B0
  clear ha hb ra rb B0
  go_enter Tryz.func41, Tryz.ntmps41
  go_wp2_with fail
  refine hq.mono ?_
  rintro e w1 ⟨rfl, hg⟩
  have S0 : Hid (ObB w1 w.heap.size o (.slice a o.l.length ca) (.slice c o.r.l.length cc)) := P0.out.next hg.low
  have S1 : Hid (ObB w1 (w.heap.size + 1) o (.slice b o.l.length cb) (.slice d o.r.l.length cd)) := P1.out.next hg.low
  have B1 : Hid (Below w.heap.size w w1) := past6 HB.out hg.low
  clear P0 P1 HB hg hq
  have a2 := S0.out.c2
  have a3 := S0.out.c3
  have a4 := S0.out.c4
  have b2 := S1.out.c2
  have b3 := S1.out.c3
  have b4 := S1.out.c4
  go_wp2_with fail
  refine (j2 _ (RA.out.kept B1.out) (RB.out.kept B1.out)).mono ?_
  rintro e w2 ⟨rfl, hb2⟩
  have T0 : Hid (ObB w2 w.heap.size o (.slice a o.l.length ca) (.slice c o.r.l.length cc)) := S0.out.next hb2
  have T1 : Hid (ObB w2 (w.heap.size + 1) o (.slice b o.l.length cb) (.slice d o.r.l.length cd)) := S1.out.next hb2
  have B2 : Hid (Below w.heap.size w w2) := past6 B1.out hb2
  clear hb2 B1 S0 S1 a2 a3 a4 b2 b3 b4 RA RB j2
  have a5 := T0.out.c5
  have a6 := T0.out.c6
  have a7 := T0.out.c7
  have b5 := T1.out.c5
  have b6 := T1.out.c6
  have b7 := T1.out.c7
  clear T0 T1
  go_wp2
  go_ret
  exact ⟨rfl, B2.out⟩
end Go.Proofs.YtkaogmdhjcgcdaaGreatDoor
namespace Go.Proofs.YtkaogmdhjcgcdaaGreatDoor
open Go.RowKit Go.Sort
set_option linter.unusedVariables false

theorem OwnsF.solid10 {w : World} {B : Nat} {v : Value} {l : List Fl} (h : OwnsF w B v l) : Solid v := by
  rcases h.2 with ⟨h0, _⟩ | ⟨g, cap, cur, hv, _⟩
  · rw [h0]; intro n c e; injection e with _ _ e; exact e.symm
  · rw [hv]; intro n c e; injection e with e _ _; cases e
theorem OwnsF.fits10 {w : World} {B : Nat} {v : Value} {l : List Fl} (h : OwnsF w B v l) (h1 : szL l ≤ 1048576) (h2 : l.length ≤ 1048576) : Fits w v l := ⟨h.fls, h1, h2, h.solid10⟩
theorem RsGot.kept10 {w w' : World} {v : Value} {r : Rs} (h : RsGot w v r) (hb : Below w.heap.size w w') : RsGot w' v r := ⟨h.1.kept hb, h.2⟩
theorem ObGot.kept {w w' : World} {v u : Value} {o : Ob} (h : ObGot w v u o) (hb : Below w.heap.size w w') : ObGot w' v u o := ⟨h.1.kept hb, h.2.1, h.2.2.1, h.2.2.2.1.kept10 hb, h.2.2.2.2⟩
/-- The two rows of fields of an object. -/
def TwoF (w : World) (v u : Value) (o : Ob) : Prop := Fls w v o.l ∧ Fls w u o.r.l
theorem TwoF.kept {w w' : World} {v u : Value} {o : Ob} (h : TwoF w v u o) (hb : Below w.heap.size w w') : TwoF w' v u o := ⟨h.1.kept hb, h.2.kept hb⟩
end Go.Proofs.YtkaogmdhjcgcdaaGreatDoor
namespace Go.Proofs.YtkaogmdhjcgcdaaGreatDoor
open Go.RowKit Go.Sort
set_option linter.unusedVariables false

set_option maxHeartbeats 4000000 in
theorem walkLif (X : World → Prop) (hX : ∀ w w', X w → Below w.heap.size w w' → X w')
    (hi : ∀ (r : Rs) (v : Value) (en dn : Int) (w : World), X w → RsIn w v r → FldMom r.l nEX en → FldMom r.l nDA dn → Calls Tryz.prog 17 #[rsV r v] w fun e w' => e = .returned (.int .i64 (lifeV r en dn)) ∧ Below w.heap.size w w')
    (r : Rs) (v : Value) (w : World) (h : RsGot w v r) (hx : X w) :
    Calls Tryz.prog 6 #[rsV r v] w fun e w' => e = .returned (.bool true) ∧ Below w.heap.size w w' := by
  obtain ⟨en, he⟩ := FldMom.ex r.l nEX
  obtain ⟨dn, hd⟩ := FldMom.ex r.l nDA
  have hfs := h.1
  obtain ⟨a, cap, rfl, hcap⟩ := hfs
  clear hcap
  have B0' : Below w.heap.size w (w.alloc (.cells #[.int .i64 r.s, .slice a r.l.length cap, .string r.b] 54)) := (Below.refl _ w).alloc (Nat.le_refl _) _
  have hsz := lawSzRs r _ _ (h.kept10 B0')
  have F0 : Hid (Fls (w.alloc (.cells #[.int .i64 r.s, .slice a r.l.length cap, .string r.b] 54)) (.slice a r.l.length cap) r.l) := h.1.kept B0'
  have Q0 : Hid (RsB (w.alloc (.cells #[.int .i64 r.s, .slice a r.l.length cap, .string r.b] 54)) w.heap.size r (.slice a r.l.length cap)) := RsB.new w r _ _
  have B0 : Hid (Below w.heap.size w (w.alloc (.cells #[.int .i64 r.s, .slice a r.l.length cap, .string r.b] 54))) := B0'
  have X0 : Hid (X (w.alloc (.cells #[.int .i64 r.s, .slice a r.l.length cap, .string r.b] 54))) := hX _ _ hx B0'
  have HX : Hid (∀ w w', X w → Below w.heap.size w w' → X w') := hX
  clear h hx B0' hX
  unfold rsV at hsz ⊢
  go_enter Tryz.func6, Tryz.ntmps6
  go_wp2_with fail
  refine hsz.mono ?_
  rintro e w1 ⟨⟨x, rfl, hx⟩, hb1⟩
  have Q1 : Hid (RsB w1 w.heap.size r (.slice a r.l.length cap)) := Q0.out.next hb1
  have B1 : Hid (Below w.heap.size w w1) := past6 B0.out hb1
  have F1 : Hid (Fls w1 (.slice a r.l.length cap) r.l) := F0.out.kept hb1
  have X1 : Hid (X w1) := HX.out _ _ X0.out hb1
  clear Q0 B0 F0 X0 hb1 hsz
  rcases hx with rfl | ⟨hx0, hxs⟩
  · go_wp2
    go_ret
    exact ⟨rfl, B1.out⟩
  · have hxn : ¬ x < 0 := by omega
    have hlen : r.l.length ≤ 1048576 := by omega
    have hszl : szL r.l ≤ 1048576 := by omega
    have HI : Hid (∀ (W : World) (u : Value) (B : Nat), OwnsF W B u r.l → RsIn W u r) := fun W u B ho => ⟨ho.fits10 hszl hlen, by omega⟩
    have hto : Hid (∀ (W : World), Fls W (.slice a r.l.length cap) r.l → Calls Tryz.prog 36 #[rsV r (.slice a r.l.length cap)] W fun e w' => ∃ u, e = .returned (rsV r u) ∧ OwnsF w' W.heap.size u r.l ∧ Below W.heap.size W w') := fun W F => lawToRs r _ W F hlen
    have hsp : Hid (∀ (W : World) (u : Value), RsIn W u r → Calls Tryz.prog 18 #[rsV r u] W fun e w' => e = .returned (.int .i64 (lifeV r en dn)) ∧ Below W.heap.size W w') := fun W u F => specLife r u en dn W F he hd
    have him : Hid (∀ (W : World) (u : Value), X W → RsIn W u r → Calls Tryz.prog 17 #[rsV r u] W fun e w' => e = .returned (.int .i64 (lifeV r en dn)) ∧ Below W.heap.size W w') := fun W u x F => hi r u en dn W x F he hd
    have heq : Hid (∀ (W : World) (u u' : Value), Fls W u r.l → Fls W u' r.l → Calls Tryz.prog 38 #[rsV r u, rsV r u'] W fun e w' => e = .returned (.bool true) ∧ Below W.heap.size W w') := fun W u u' F F' => lawEqRs r u u' W F F' hlen
    generalize lifeV r en dn = ans at hsp him
    unfold rsV at hto hsp him heq
    clear hx0 hxs hi he hd
    have a0 := Q1.out.c0
    have a1 := Q1.out.c1
    have a2 := Q1.out.c2
    go_wp2_with fail
    refine (hto.out _ F1.out).mono ?_
    rintro e w2 ⟨u2, rfl, ho2, hb2⟩
    have I2' := HI.out _ _ _ ho2
    obtain ⟨A2, cap2, rfl, _⟩ := ho2.form
    have I2 : Hid (RsIn w2 (.slice A2 r.l.length cap2) r) := I2'
    have Q2 : Hid (RsB w2 w.heap.size r (.slice a r.l.length cap)) := Q1.out.next hb2
    have B2 : Hid (Below w.heap.size w w2) := past6 B1.out hb2
    have F2 : Hid (Fls w2 (.slice a r.l.length cap) r.l) := F1.out.kept hb2
    have X2 : Hid (X w2) := HX.out _ _ X1.out hb2
    clear a0 a1 a2 Q1 B1 F1 X1 hb2 ho2 I2'
    go_wp2_with fail
    refine (hsp.out _ _ I2.out).mono ?_
    rintro e w3 ⟨rfl, hb3⟩
    have Q3 : Hid (RsB w3 w.heap.size r (.slice a r.l.length cap)) := Q2.out.next hb3
    have B3 : Hid (Below w.heap.size w w3) := past6 B2.out hb3
    have F3 : Hid (Fls w3 (.slice a r.l.length cap) r.l) := F2.out.kept hb3
    have X3 : Hid (X w3) := HX.out _ _ X2.out hb3
    clear Q2 B2 F2 X2 hb3 I2 hsp
    have a0 := Q3.out.c0
    have a1 := Q3.out.c1
    have a2 := Q3.out.c2
    go_wp2_with fail
    refine (hto.out _ F3.out).mono ?_
    rintro e w4 ⟨u4, rfl, ho4, hb4⟩
    have I4' := HI.out _ _ _ (ho4.alloc (.cells #[.int .i64 r.s, u4, .string r.b] 26))
    have G4' := (ho4.alloc (.cells #[.int .i64 r.s, u4, .string r.b] 26)).fls
    obtain ⟨A4, cap4, rfl, _⟩ := ho4.form
    have I4 : Hid (RsIn (w4.alloc (.cells #[.int .i64 r.s, .slice A4 r.l.length cap4, .string r.b] 26)) (.slice A4 r.l.length cap4) r) := I4'
    have G4 : Hid (Fls (w4.alloc (.cells #[.int .i64 r.s, .slice A4 r.l.length cap4, .string r.b] 26)) (.slice A4 r.l.length cap4) r.l) := G4'
    have Q4 : Hid (RsB (w4.alloc (.cells #[.int .i64 r.s, .slice A4 r.l.length cap4, .string r.b] 26)) w.heap.size r (.slice a r.l.length cap)) := (Q3.out.next hb4).alloc _
    have P4 : Hid (RsB (w4.alloc (.cells #[.int .i64 r.s, .slice A4 r.l.length cap4, .string r.b] 26)) w4.heap.size r (.slice A4 r.l.length cap4)) := RsB.new w4 r _ _
    have B4 : Hid (Below w.heap.size w (w4.alloc (.cells #[.int .i64 r.s, .slice A4 r.l.length cap4, .string r.b] 26))) := (past6 B3.out hb4).alloc (past6 B3.out hb4).size _
    have F4 : Hid (Fls (w4.alloc (.cells #[.int .i64 r.s, .slice A4 r.l.length cap4, .string r.b] 26)) (.slice a r.l.length cap) r.l) := (F3.out.kept hb4).kept ((Below.refl _ w4).alloc (Nat.le_refl _) _)
    have X4 : Hid (X (w4.alloc (.cells #[.int .i64 r.s, .slice A4 r.l.length cap4, .string r.b] 26))) := HX.out _ _ (HX.out _ _ X3.out hb4) ((Below.refl _ w4).alloc (Nat.le_refl _) _)
    clear a0 a1 a2 Q3 B3 F3 X3 hb4 ho4 I4' G4'
    go_wp2_with fail
    refine (him.out _ _ X4.out I4.out).mono ?_
    rintro e w5 ⟨rfl, hb5⟩
    have Q5 : Hid (RsB w5 w.heap.size r (.slice a r.l.length cap)) := Q4.out.next hb5
    have P5 : Hid (RsB w5 w4.heap.size r (.slice A4 r.l.length cap4)) := P4.out.next hb5
    have B5 : Hid (Below w.heap.size w w5) := past6 B4.out hb5
    have F5' : Fls w5 (.slice a r.l.length cap) r.l := F4.out.kept hb5
    have F5 : Hid (Fls w5.drew (.slice a r.l.length cap) r.l) := F5'
    have G5' : Fls w5 (.slice A4 r.l.length cap4) r.l := G4.out.kept hb5
    have G5 : Hid (Fls w5.drew (.slice A4 r.l.length cap4) r.l) := G5'
    clear Q4 P4 B4 F4 G4 X4 hb5 I4 him F5' G5'
    have a0 := Q5.out.c0
    have a1 := Q5.out.c1
    have a2 := Q5.out.c2
    have p0 := P5.out.c0
    have p1 := P5.out.c1
    have p2 := P5.out.c2
    go_wp2
    go_region_with (first
      | (go_at_call 36; refine (hto.out _ F5.out).mono ?_; rintro e w6 ⟨u6, rfl, ho6, hb6⟩; have G6' := ho6.fls; obtain ⟨A6, cap6, rfl, _⟩ := ho6.form; have G6 : Hid (Fls w6 (.slice A6 r.l.length cap6) r.l) := G6'; have H6 : Hid (Fls w6 (.slice A4 r.l.length cap4) r.l) := G5.out.kept hb6; have hb6' : Below w5.heap.size w5 w6 := ⟨hb6.os, hb6.tape, hb6.output, hb6.size, hb6.block⟩; have B6 : Hid (Below w.heap.size w w6) := past6 B5.out hb6'; have P6 : Hid (RsB w6 w4.heap.size r (.slice A4 r.l.length cap4)) := P5.out.next hb6'; have q0 := P6.out.c0; have q1 := P6.out.c1; have q2 := P6.out.c2; clear hb6 hb6' ho6 G6')
      | (go_at_call 38; refine (heq.out _ _ _ H6.out G6.out).mono ?_; rintro e w7 ⟨rfl, hb7⟩))
    all_goals
      go_wp2
      go_ret
      exact ⟨rfl, past6 B6.out hb7⟩

end Go.Proofs.YtkaogmdhjcgcdaaGreatDoor
namespace Go.Proofs.YtkaogmdhjcgcdaaGreatDoor
open Go.RowKit Go.Sort
set_option linter.unusedVariables false
set_option linter.unusedSimpArgs false

/-- A control that lies in memory, in whatever world behind. -/
theorem CtB.rg {w : World} {b : Nat} {x : Ct} (h : CtB w b x) : (∀ d os, (grow (redrawn w d) os).cell? ⟨b, 0, Option.none⟩ = some (.int .i64 x.a)) ∧ (∀ d os, (grow (redrawn w d) os).cell? ⟨b, 1, Option.none⟩ = some (.int .i64 x.s)) ∧ (∀ d os, (grow (redrawn w d) os).cell? ⟨b, 2, Option.none⟩ = some (.int .i64 x.t)) ∧ (∀ d os, (grow (redrawn w d) os).cell? ⟨b, 3, Option.none⟩ = some (.bool x.ns)) ∧ (∀ d os, (grow (redrawn w d) os).cell? ⟨b, 4, Option.none⟩ = some (.bool x.nc)) ∧ (∀ d os, (grow (redrawn w d) os).cell? ⟨b, 5, Option.none⟩ = some (.bool x.pr)) ∧ (∀ d os, (grow (redrawn w d) os).cell? ⟨b, 6, Option.none⟩ = some (.bool x.mu)) := by
  obtain ⟨h0, h1, h2, h3, h4, h5, h6⟩ := h.all
  exact ⟨cell_regrown h0, cell_regrown h1, cell_regrown h2, cell_regrown h3, cell_regrown h4, cell_regrown h5, cell_regrown h6⟩
theorem ageV_le (o : Ob) (now d : Int) : ageV o now d ≤ 1000000000 := by
  unfold ageV
  split
  · unfold ageF
    generalize maxI (if 0 ≤ d then maxI 0 (o.got - d) else 0) (numV 10 15 (getF o.r.l nAG).1 + o.got - o.asked) + now - o.got = x
    unfold minI
    split <;> omega
  · omega
end Go.Proofs.YtkaogmdhjcgcdaaGreatDoor
namespace Go.Proofs.YtkaogmdhjcgcdaaGreatDoor
open Go.RowKit Go.Sort
set_option linter.unusedVariables false
set_option linter.unusedSimpArgs false

theorem notGet {m : ByteArray} (h : ¬ m = ⟨#[71, 69, 84]⟩) : (m.toList == [71, 69, 84]) = false ∧ (m.toList != [71, 69, 84]) = true := by
  have h2 : (m.toList == [71, 69, 84]) = false := by
    rw [beq_eq_false_iff_ne]
    intro e
    apply h
    rw [ByteArray.toList_eq] at e
    obtain ⟨a⟩ := m
    congr 1
    exact Array.toList_inj.1 (e.trans rfl)
  exact ⟨h2, by rw [bne, h2]; rfl⟩
def s7 : List Int := [200, 203, 204, 300, 301, 404, 410]
def f7 (s : Int) (k : Nat) : Bool := (s7.take k).any (fun x => x == s)
theorem f7_all (s : Int) : f7 s 7 = statB s := by
  unfold f7 s7 statB
  simp only [List.take_succ_cons, List.take_zero, List.any_cons, List.any_nil, Bool.or_false]
  have e : ∀ a : Int, (a == s) = decide (s = a) := fun a => by
    by_cases h : s = a
    · rw [decide_eq_true h, h]; simp
    · rw [decide_eq_false h, beq_eq_false_iff_ne]; exact fun e => h e.symm
  rw [e, e, e, e, e, e, e]
theorem f7_next (s : Int) {k : Nat} (h : k < s7.length) : f7 s (k + 1) = (f7 s k || (s7[k] == s)) := by
  unfold f7
  rw [← List.take_append_getElem h, List.any_append]
  simp
theorem s7_cell (w : World) {k : Nat} (h : k < s7.length) : (w.alloc (.cells #[.int .i64 200, .int .i64 203, .int .i64 204, .int .i64 300, .int .i64 301, .int .i64 404, .int .i64 410] 2)).cell? ⟨w.heap.size, k, Option.none⟩ = some (.int .i64 s7[k]) := by
  have : k < 7 := h
  rcases (show k = 0 ∨ k = 1 ∨ k = 2 ∨ k = 3 ∨ k = 4 ∨ k = 5 ∨ k = 6 by omega) with rfl | rfl | rfl | rfl | rfl | rfl | rfl
  all_goals exact World.cell?_alloc_mark _ _ _ _ _
theorem stoV_out {m : ByteArray} {l : List Fl} {r : Rs} (h : ¬ (m = ⟨#[71, 69, 84]⟩ ∧ fldsOk l = true ∧ rsOk r = true)) : stoV m l r = false := by unfold stoV; rw [if_neg h]
theorem stoV_in {m : ByteArray} {l : List Fl} {r : Rs} (h1 : m = ⟨#[71, 69, 84]⟩) (h2 : fldsOk l = true) (h3 : rsOk r = true) : stoV m l r = (statB r.s && (!(ctlOf l).ns && (!(ctlOf r.l).ns && (!(ctlOf r.l).pr && ((decide (0 ≤ (ctlOf r.l).s) || (decide (0 ≤ (ctlOf r.l).a) || ((getF r.l nEX).2 || tagOf r.l))) && (!(getF l nAU).2 || (decide (0 ≤ (ctlOf r.l).s) || (ctlOf r.l).mu))))))) := by unfold stoV; rw [if_pos ⟨h1, h2, h3⟩]
set_option maxRecDepth 100000 in
set_option maxHeartbeats 16000000 in
theorem specSto (m : ByteArray) (v0 : Value) (l : List Fl) (r : Rs) (u : Value) (w : World) (hm : m.size ≤ 1048576) (hl : Fits w v0 l) (h : RsIn w u r) :
    Calls Tryz.prog 23 #[.string m, v0, rsV r u] w fun en w' => en = .returned (.bool (stoV m l r)) ∧ Below w.heap.size w w' := by
  have j1 := fun W (hW : Fits W v0 l) => specOk v0 l W hW.1 hW.2.1
  have j2 := fun W hW => specRsOk r u W hW
  have j3 := fun W hW => specCtl v0 l W hW
  have j4 := fun W hW => specCtl u r.l W hW
  have j5 := fun W (hW : Fits W u r.l) => specGetN u r.l nEX W hW.1 hW.2.1 hW.2.2.1 (by decide)
  have j6 := fun W (hW : Fits W v0 l) => specGetN v0 l nAU W hW.1 hW.2.1 hW.2.2.1 (by decide)
  have j7 := fun W hW => specTagO r u W hW
  have HO := @stoV_out m l r
  have HI := @stoV_in m l r
  generalize stoV m l r = R at HO HI ⊢
  generalize ctlOf l = C at HI j3
  generalize ctlOf r.l = D at HI j4
  generalize tagOf r.l = T at HI j7
  generalize fldsOk l = b0 at HO HI j1
  generalize rsOk r = b1 at HO HI j2
  unfold getE at j5 j6
  generalize getF r.l nEX = g1 at HI j5
  generalize getF l nAU = g2 at HI j6
  obtain ⟨gx, ex⟩ := g1
  obtain ⟨gy, sec⟩ := g2
  simp only at HI j5 j6
  unfold nEX at j5
  unfold nAU at j6
  have HO' : Hid (¬ (m = ⟨#[71, 69, 84]⟩ ∧ b0 = true ∧ b1 = true) → R = false) := HO
  have HI' : Hid (m = ⟨#[71, 69, 84]⟩ → b0 = true → b1 = true → R = (statB r.s && (!C.ns && (!D.ns && (!D.pr && ((decide (0 ≤ D.s) || (decide (0 ≤ D.a) || (ex || T))) && (!sec || (decide (0 ≤ D.s) || D.mu)))))))) := HI
  clear HO HI
  obtain ⟨za, zc, rfl⟩ := hl.form
  obtain ⟨ua, uc, rfl⟩ := h.1.form
  have Q0 : Hid (RsB (w.alloc (.cells #[.int .i64 r.s, .slice ua r.l.length uc, .string r.b] 26)) w.heap.size r (.slice ua r.l.length uc)) := RsB.new w r _ _
  have B0 : Hid (Below w.heap.size w (w.alloc (.cells #[.int .i64 r.s, .slice ua r.l.length uc, .string r.b] 26))) := (Below.refl _ w).alloc (Nat.le_refl _) _
  have I0 : Hid (RsIn (w.alloc (.cells #[.int .i64 r.s, .slice ua r.l.length uc, .string r.b] 26)) (.slice ua r.l.length uc) r) := h.kept B0.out
  have F0 : Hid (Fits w (.slice za l.length zc) l) := hl
  clear h hl
  unfold rsV at j2 j7 ⊢
  by_cases hg : m = ⟨#[71, 69, 84]⟩
  · subst hg
    go_enter Tryz.func23, Tryz.ntmps23
    go_wp2_with fail
    refine (j1 _ (F0.out.kept B0.out)).mono ?_
    rintro en w1 ⟨rfl, hb1⟩
    have Q1 : Hid (RsB w1 w.heap.size r (.slice ua r.l.length uc)) := Q0.out.next hb1
    have B1 : Hid (Below w.heap.size w w1) := past6 B0.out hb1
    have I1 : Hid (RsIn w1 (.slice ua r.l.length uc) r) := I0.out.kept hb1
    clear hb1 Q0 B0 I0 j1
    cases b0 with
    | false =>
      have HR : Hid (false = R) := (HO'.out (fun h => by cases h.2.1)).symm
      go_wp2
      go_ret
      exact ⟨ret_bool HR.out, B1.out⟩
    | true =>
      have q0 := Q1.out.c0
      have q1 := Q1.out.c1
      have q2 := Q1.out.c2
      go_wp2_with fail
      refine (j2 _ I1.out).mono ?_
      rintro en w2 ⟨rfl, hb2⟩
      have Q2 : Hid (RsB w2 w.heap.size r (.slice ua r.l.length uc)) := Q1.out.next hb2
      have B2 : Hid (Below w.heap.size w w2) := past6 B1.out hb2
      have I2 : Hid (RsIn w2 (.slice ua r.l.length uc) r) := I1.out.kept hb2
      clear hb2 Q1 B1 I1 j2 q0 q1 q2
      cases b1 with
      | false =>
        have HR : Hid (false = R) := (HO'.out (fun h => by cases h.2.2)).symm
        go_wp2
        go_ret
        exact ⟨ret_bool HR.out, B2.out⟩
      | true =>
        have HR := HI'.out (by first | rfl | trivial) (by first | rfl | trivial) (by first | rfl | trivial)
        have HR' : Hid (R = (statB r.s && (!C.ns && (!D.ns && (!D.pr && ((decide (0 ≤ D.s) || (decide (0 ≤ D.a) || (ex || T))) && (!sec || (decide (0 ≤ D.s) || D.mu)))))))) := HR
        clear HR HI' HO'
        have Q3 : Hid (RsB (w2.alloc (.cells #[.int .i64 200, .int .i64 203, .int .i64 204, .int .i64 300, .int .i64 301, .int .i64 404, .int .i64 410] 2)) w.heap.size r (.slice ua r.l.length uc)) := Q2.out.next ((Below.refl _ w2).alloc (Nat.le_refl _) _)
        have B3 : Hid (Below w.heap.size w (w2.alloc (.cells #[.int .i64 200, .int .i64 203, .int .i64 204, .int .i64 300, .int .i64 301, .int .i64 404, .int .i64 410] 2))) := B2.out.alloc B2.out.size _
        have I3 : Hid (RsIn (w2.alloc (.cells #[.int .i64 200, .int .i64 203, .int .i64 204, .int .i64 300, .int .i64 301, .int .i64 404, .int .i64 410] 2)) (.slice ua r.l.length uc) r) := I2.out.kept ((Below.refl _ w2).alloc (Nat.le_refl _) _)
        have HC : Hid (∀ k (hk : k < s7.length), (w2.alloc (.cells #[.int .i64 200, .int .i64 203, .int .i64 204, .int .i64 300, .int .i64 301, .int .i64 404, .int .i64 410] 2)).cell? ⟨w2.heap.size, k, Option.none⟩ = some (.int .i64 s7[k])) := fun k hk => s7_cell w2 hk
        have HN : Hid (∀ k (hk : k < s7.length), f7 r.s (k + 1) = (f7 r.s k || (s7[k] == r.s))) := fun k hk => f7_next r.s hk
        have H7 : Hid (f7 r.s 7 = statB r.s) := f7_all r.s
        clear Q2 B2 I2
        generalize hw3 : w2.alloc (.cells #[.int .i64 200, .int .i64 203, .int .i64 204, .int .i64 300, .int .i64 301, .int .i64 404, .int .i64 410] 2) = w3 at Q3 B3 I3 HC
        go_wp2
        try rw [hw3]
        clear hw3
        go_loopw [7, 9, 31] (fun q x i wr => ∃ (k : Nat) (fd : Bool), k ≤ 7 ∧ i = .int .i64 k ∧ q = .bool fd ∧ Hid (f7 r.s k = fd) ∧ w3 = wr) (fun _ _ i _ => 7 - (intOf i).toNat)
        case atStart => exact ⟨0, false, Nat.zero_le _, rfl, rfl, rfl, rfl⟩
        case round =>
          obtain ⟨k, fd, hk, rfl, rfl, hfd, rfl⟩ := hrel
          by_cases hlt : k < 7
          · have hcell := HC.out k hlt
            have hnx := HN.out k hlt
            rw [hfd.out] at hnx
            generalize s7[k] = x at hcell hnx
            have q0 := Q3.out.c0
            cases fd with
            | true =>
              have HX : Hid (f7 r.s (k + 1) = true) := by show _ = _; rw [hnx]; rfl
              clear hnx hfd
              go_wp2
              go_roundw
              case rel => exact ⟨k + 1, true, by omega, by go_num, rfl, HX, by first | rfl | trivial⟩
              case measure => simp [intOf]; omega
            | false =>
              have HX : Hid (f7 r.s (k + 1) = (x == r.s)) := by show _ = _; rw [hnx]; rfl
              clear hnx hfd
              go_wp2
              go_roundw
              case rel => exact ⟨k + 1, _, by omega, by go_num, rfl, HX, by first | rfl | trivial⟩
              case measure => simp [intOf]; omega
          · have HST : Hid (statB r.s = fd) := by
              show _ = _
              rw [← H7.out, ← hfd.out, show k = 7 by omega]
            rw [HST.out] at HR'
            clear HN H7 HC hfd
            go_wp2_with fail
            refine (j3 _ (F0.out.kept B3.out)).mono ?_
            rintro en w4 ⟨rfl, hb4⟩
            obtain ⟨ca, cs, ct, cns, cnc, cpr, cmu⟩ := C
            have B4 : Hid (Below w.heap.size w (w4.alloc (.cells #[.int .i64 ca, .int .i64 cs, .int .i64 ct, .bool cns, .bool cnc, .bool cpr, .bool cmu] 50))) := (past6 B3.out hb4).alloc (past6 B3.out hb4).size _
            have Q4 : Hid (RsB (w4.alloc (.cells #[.int .i64 ca, .int .i64 cs, .int .i64 ct, .bool cns, .bool cnc, .bool cpr, .bool cmu] 50)) w.heap.size r (.slice ua r.l.length uc)) := (Q3.out.next hb4).next ((Below.refl _ w4).alloc (Nat.le_refl _) _)
            have I4 : Hid (RsIn (w4.alloc (.cells #[.int .i64 ca, .int .i64 cs, .int .i64 ct, .bool cns, .bool cnc, .bool cpr, .bool cmu] 50)) (.slice ua r.l.length uc) r) := (I3.out.kept hb4).kept ((Below.refl _ w4).alloc (Nat.le_refl _) _)
            have C4 : Hid (CtB (w4.alloc (.cells #[.int .i64 ca, .int .i64 cs, .int .i64 ct, .bool cns, .bool cnc, .bool cpr, .bool cmu] 50)) w4.heap.size ⟨ca, cs, ct, cns, cnc, cpr, cmu⟩) := CtB.born w4 ⟨ca, cs, ct, cns, cnc, cpr, cmu⟩ 50
            clear hb4 Q3 B3 I3 j3
            unfold ctV
            simp only
            have q1 := Q4.out.c1
            go_wp2_with fail
            refine (j4 _ I4.out.1).mono ?_
            rintro en w5 ⟨rfl, hb5⟩
            obtain ⟨da, ds, dt, dns, dnc, dpr, dmu⟩ := D
            have B5 : Hid (Below w.heap.size w (w5.alloc (.cells #[.int .i64 da, .int .i64 ds, .int .i64 dt, .bool dns, .bool dnc, .bool dpr, .bool dmu] 50))) := (past6 B4.out hb5).alloc (past6 B4.out hb5).size _
            have Q5 : Hid (RsB (w5.alloc (.cells #[.int .i64 da, .int .i64 ds, .int .i64 dt, .bool dns, .bool dnc, .bool dpr, .bool dmu] 50)) w.heap.size r (.slice ua r.l.length uc)) := (Q4.out.next hb5).next ((Below.refl _ w5).alloc (Nat.le_refl _) _)
            have I5 : Hid (RsIn (w5.alloc (.cells #[.int .i64 da, .int .i64 ds, .int .i64 dt, .bool dns, .bool dnc, .bool dpr, .bool dmu] 50)) (.slice ua r.l.length uc) r) := (I4.out.kept hb5).kept ((Below.refl _ w5).alloc (Nat.le_refl _) _)
            have C5 : Hid (CtB (w5.alloc (.cells #[.int .i64 da, .int .i64 ds, .int .i64 dt, .bool dns, .bool dnc, .bool dpr, .bool dmu] 50)) w4.heap.size ⟨ca, cs, ct, cns, cnc, cpr, cmu⟩) := (C4.out.kept hb5).alloc _
            have D5 : Hid (CtB (w5.alloc (.cells #[.int .i64 da, .int .i64 ds, .int .i64 dt, .bool dns, .bool dnc, .bool dpr, .bool dmu] 50)) w5.heap.size ⟨da, ds, dt, dns, dnc, dpr, dmu⟩) := CtB.born w5 ⟨da, ds, dt, dns, dnc, dpr, dmu⟩ 50
            clear hb5 Q4 B4 I4 C4 j4 q1
            unfold ctV
            simp only
            go_upto_region 11 with fail
            generalize w5.alloc (.cells #[.int .i64 da, .int .i64 ds, .int .i64 dt, .bool dns, .bool dnc, .bool dpr, .bool dmu] 50) = w6 at B5 Q5 I5 C5 D5 ⊢
            have q1 := Q5.out.c1
            go_wp2_with fail
            refine (j5 _ I5.out.1).mono ?_
            rintro en w7 ⟨rfl, hb7⟩
            have B7 : Hid (Below w.heap.size w w7) := past6 B5.out hb7
            have Q7 : Hid (RsB w7 w.heap.size r (.slice ua r.l.length uc)) := Q5.out.next hb7
            have I7 : Hid (RsIn w7 (.slice ua r.l.length uc) r) := I5.out.kept hb7
            have C7 : Hid (CtB w7 w4.heap.size ⟨ca, cs, ct, cns, cnc, cpr, cmu⟩) := C5.out.kept hb7
            have D7 : Hid (CtB w7 w5.heap.size ⟨da, ds, dt, dns, dnc, dpr, dmu⟩) := D5.out.kept hb7
            clear hb7 Q5 B5 I5 C5 D5 q1 j5
            go_wp2_with fail
            refine (j6 _ (F0.out.kept B7.out)).mono ?_
            rintro en w8 ⟨rfl, hb8⟩
            have B8 : Hid (Below w.heap.size w w8) := past6 B7.out hb8
            have Q8 : Hid (RsB w8 w.heap.size r (.slice ua r.l.length uc)) := Q7.out.next hb8
            have I8 : Hid (RsIn w8 (.slice ua r.l.length uc) r) := I7.out.kept hb8
            have C8 : Hid (CtB w8 w4.heap.size ⟨ca, cs, ct, cns, cnc, cpr, cmu⟩) := C7.out.kept hb8
            have D8 : Hid (CtB w8 w5.heap.size ⟨da, ds, dt, dns, dnc, dpr, dmu⟩) := D7.out.kept hb8
            clear hb8 Q7 B7 I7 C7 D7 j6 F0
            try simp only at HR'
            generalize hfr : (decide (0 ≤ ds) || (decide (0 ≤ da) || (ex || T))) = FR at HR'
            have HFR : Hid ((decide (0 ≤ ds) || (decide (0 ≤ da) || (ex || T))) = FR) := hfr
            clear hfr
            obtain ⟨d0, d1, d2, d3, d4, d5, d6⟩ := CtB.all D8.out
            simp only at d0 d1 d2 d3 d4 d5 d6
            go_upto_region 13 with fail
            go_cut [16] (fun q wx => q = .bool FR ∧ Below w8.heap.size w8 wx)
            case first =>
              by_cases h1 : 0 ≤ ds
              · have e1 : decide (0 ≤ ds) = true := decide_eq_true h1
                have HR2 : Hid (true = FR) := by show _ = _; rw [← HFR.out, e1]; rfl
                go_wp2_with fail
                go_meet
                exact ⟨congrArg Value.bool HR2.out, Below.refl _ _⟩
              · have e1 : decide (0 ≤ ds) = false := decide_eq_false h1
                by_cases h2 : 0 ≤ da
                · have e2 : decide (0 ≤ da) = true := decide_eq_true h2
                  have HR2 : Hid (true = FR) := by show _ = _; rw [← HFR.out, e1, e2]; rfl
                  go_wp2_with fail
                  go_meet
                  exact ⟨congrArg Value.bool HR2.out, Below.refl _ _⟩
                · have e2 : decide (0 ≤ da) = false := decide_eq_false h2
                  cases ex with
                  | true =>
                    have HR2 : Hid (true = FR) := by show _ = _; rw [← HFR.out, e1, e2]; rfl
                    go_wp2_with fail
                    go_meet
                    exact ⟨congrArg Value.bool HR2.out, Below.refl _ _⟩
                  | false =>
                    have HR2 : Hid (T = FR) := by show _ = _; rw [← HFR.out, e1, e2]; rfl
                    have q0 := Q8.out.c0
                    have q1 := Q8.out.c1
                    have q2 := Q8.out.c2
                    go_wp2_with fail
                    refine (j7 _ I8.out).mono ?_
                    rintro en w9 ⟨rfl, hb9⟩
                    have HB9 : Hid (Below w8.heap.size w8 w9) := hb9
                    clear hb9
                    go_wp2_with fail
                    go_meet
                    exact ⟨congrArg Value.bool HR2.out, HB9.out⟩
            case rest =>
              obtain ⟨rfl, hb9⟩ := hcut
              obtain ⟨x1, rfl⟩ : ∃ z, z = wc := ⟨wc, rfl⟩
              have B9 : Hid (Below w.heap.size w x1) := past6 B8.out hb9
              have C9 : Hid (CtB x1 w4.heap.size ⟨ca, cs, ct, cns, cnc, cpr, cmu⟩) := C8.out.kept hb9
              have D9 : Hid (CtB x1 w5.heap.size ⟨da, ds, dt, dns, dnc, dpr, dmu⟩) := D8.out.kept hb9
              clear hb9 Q8 B8 I8 C8 D8 j7 HFR d0 d1 d2 d3 d4 d5 d6
              obtain ⟨d0, d1, d2, d3, d4, d5, d6⟩ := CtB.all D9.out
              simp only at d0 d1 d2 d3 d4 d5 d6
              obtain ⟨c0, c1, c2, c3, c4, c5, c6⟩ := CtB.all C9.out
              simp only at c0 c1 c2 c3 c4 c5 c6
              have e0 : Hid (R = (fd && (!cns && (!dns && (!dpr && (FR && (!sec || (decide (0 ≤ ds) || dmu)))))))) := HR'
              clear HR' C9 D9
              cases fd with
              | false =>
                have HR2 : Hid (false = R) := by show _ = _; rw [e0.out]; rfl
                go_wp2
                go_ret
                exact ⟨ret_bool HR2.out, B9.out⟩
              | true =>
                cases cns with
                | true =>
                  have HR2 : Hid (false = R) := by show _ = _; rw [e0.out]; rfl
                  go_wp2
                  go_ret
                  exact ⟨ret_bool HR2.out, B9.out⟩
                | false =>
                  cases dns with
                  | true =>
                    have HR2 : Hid (false = R) := by show _ = _; rw [e0.out]; rfl
                    go_wp2
                    go_ret
                    exact ⟨ret_bool HR2.out, B9.out⟩
                  | false =>
                    cases dpr with
                    | true =>
                      have HR2 : Hid (false = R) := by show _ = _; rw [e0.out]; rfl
                      go_wp2
                      go_ret
                      exact ⟨ret_bool HR2.out, B9.out⟩
                    | false =>
                      cases FR with
                      | false =>
                        have HR2 : Hid (false = R) := by show _ = _; rw [e0.out]; rfl
                        go_wp2
                        go_ret
                        exact ⟨ret_bool HR2.out, B9.out⟩
                      | true =>
                        cases sec with
                        | false =>
                          have HR2 : Hid (true = R) := by show _ = _; rw [e0.out]; rfl
                          go_wp2
                          go_ret
                          exact ⟨ret_bool HR2.out, B9.out⟩
                        | true =>
                          by_cases h1 : 0 ≤ ds
                          · have e1 : decide (0 ≤ ds) = true := decide_eq_true h1
                            have HR2 : Hid (true = R) := by show _ = _; rw [e0.out, e1]; rfl
                            go_wp2
                            go_ret
                            exact ⟨ret_bool HR2.out, B9.out⟩
                          · have e1 : decide (0 ≤ ds) = false := decide_eq_false h1
                            have HR2 : Hid (dmu = R) := by show _ = _; rw [e0.out, e1]; rfl
                            go_wp2
                            go_ret
                            exact ⟨ret_bool HR2.out, B9.out⟩
  · obtain ⟨n1, n2⟩ := notGet hg
    have HR : Hid (false = R) := (HO'.out (fun h => hg h.1)).symm
    have hmx : m.size ≤ maxLen := by unfold maxLen; omega
    go_enter Tryz.func23, Tryz.ntmps23
    go_wp2
    go_ret
    exact ⟨ret_bool HR.out, B0.out⟩
end Go.Proofs.YtkaogmdhjcgcdaaGreatDoor
namespace Go.Proofs.YtkaogmdhjcgcdaaGreatDoor
open Go.RowKit Go.Sort
set_option linter.unusedVariables false

set_option maxHeartbeats 16000000 in
theorem walkSto (X : World → Prop) (hX : ∀ w w', X w → Below w.heap.size w w' → X w')
    (hi : ∀ (m : ByteArray) (v0 : Value) (l : List Fl) (r : Rs) (u : Value) (w : World), X w → Fits w v0 l → RsIn w u r → m.size ≤ 1048576 → Calls Tryz.prog 22 #[.string m, v0, rsV r u] w fun e w' => e = .returned (.bool (stoV m l r)) ∧ Below w.heap.size w w')
    (m : ByteArray) (z0 : Value) (l : List Fl) (r : Rs) (u : Value) (w : World) (hz : Fls w z0 l) (hzf : ∀ f ∈ l, f.1.size ≤ maxLen ∧ f.2.size ≤ maxLen) (h : RsGot w u r) (hm0 : m.size ≤ maxLen) (hx : X w) :
    Calls Tryz.prog 5 #[.string m, z0, rsV r u] w fun e w' => e = .returned (.bool true) ∧ Below w.heap.size w w' := by
  have hzs := hz
  obtain ⟨za, zc, rfl, hcap⟩ := hzs
  clear hcap
  have hrs := h.1
  obtain ⟨ua, uc, rfl, hcap⟩ := hrs
  clear hcap
  have B0' : Below w.heap.size w (w.alloc (.cells #[.int .i64 r.s, .slice ua r.l.length uc, .string r.b] 54)) := (Below.refl _ w).alloc (Nat.le_refl _) _
  have F0 : Hid (Fls (w.alloc (.cells #[.int .i64 r.s, .slice ua r.l.length uc, .string r.b] 54)) (.slice ua r.l.length uc) r.l) := h.1.kept B0'
  have Y0 : Hid (Fls (w.alloc (.cells #[.int .i64 r.s, .slice ua r.l.length uc, .string r.b] 54)) (.slice za l.length zc) l) := hz.kept B0'
  have Q0 : Hid (RsB (w.alloc (.cells #[.int .i64 r.s, .slice ua r.l.length uc, .string r.b] 54)) w.heap.size r (.slice ua r.l.length uc)) := RsB.new w r _ _
  have B0 : Hid (Below w.heap.size w (w.alloc (.cells #[.int .i64 r.s, .slice ua r.l.length uc, .string r.b] 54))) := B0'
  have X0 : Hid (X (w.alloc (.cells #[.int .i64 r.s, .slice ua r.l.length uc, .string r.b] 54))) := hX _ _ hx B0'
  have HX : Hid (∀ w w', X w → Below w.heap.size w w' → X w') := hX
  have K0 : Hid (RsGot (w.alloc (.cells #[.int .i64 r.s, .slice ua r.l.length uc, .string r.b] 54)) (.slice ua r.l.length uc) r) := h.kept10 B0'
  have HZ : Hid (∀ f ∈ l, f.1.size ≤ maxLen ∧ f.2.size ≤ maxLen) := hzf
  have j2 := fun y W h0 h1 hW => lawSzRsX r (.slice ua r.l.length uc) y W h0 h1 hW
  clear h hx B0' hX hz hzf
  unfold rsV at j2 ⊢
  unfold maxLen at hm0
  by_cases hmb : 1048576 < m.size
  · have d1 : (1048576 : Int) < (m.size : Int) := by omega
    go_enter Tryz.func5, Tryz.ntmps5
    go_wp2
    go_ret
    exact ⟨rfl, B0.out⟩
  have hm : m.size ≤ 1048576 := by omega
  have d1 : ¬ (1048576 : Int) < (m.size : Int) := by omega
  go_enter Tryz.func5, Tryz.ntmps5
  go_wp2_with fail
  refine (szN _ l _ _ (by omega) (by omega) Y0.out HZ.out).mono ?_
  rintro e w1 ⟨⟨x, rfl, hx⟩, hb1⟩
  have Q1 : Hid (RsB w1 w.heap.size r (.slice ua r.l.length uc)) := Q0.out.next hb1
  have B1 : Hid (Below w.heap.size w w1) := past6 B0.out hb1
  have F1 : Hid (Fls w1 (.slice ua r.l.length uc) r.l) := F0.out.kept hb1
  have Y1 : Hid (Fls w1 (.slice za l.length zc) l) := Y0.out.kept hb1
  have X1 : Hid (X w1) := HX.out _ _ X0.out hb1
  have K1 : Hid (RsGot w1 (.slice ua r.l.length uc) r) := K0.out.kept10 hb1
  clear Q0 B0 F0 Y0 X0 K0 hb1
  rcases hx with rfl | ⟨hx0, hxs⟩
  · go_wp2
    go_ret
    exact ⟨rfl, B1.out⟩
  have hxn : ¬ x < 0 := by omega
  have hx1 : x ≤ 1048576 := by omega
  have a0 := Q1.out.c0
  have a1 := Q1.out.c1
  have a2 := Q1.out.c2
  go_wp2_with fail
  refine (j2 x _ hx0 hx1 K1.out).mono ?_
  rintro e w2 ⟨⟨y, rfl, hy⟩, hb2⟩
  have Q2 : Hid (RsB w2 w.heap.size r (.slice ua r.l.length uc)) := Q1.out.next hb2
  have B2 : Hid (Below w.heap.size w w2) := past6 B1.out hb2
  have F2 : Hid (Fls w2 (.slice ua r.l.length uc) r.l) := F1.out.kept hb2
  have Y2 : Hid (Fls w2 (.slice za l.length zc) l) := Y1.out.kept hb2
  have X2 : Hid (X w2) := HX.out _ _ X1.out hb2
  clear Q1 B1 F1 Y1 X1 K1 hb2 j2 a0 a1 a2
  rcases hy with rfl | ⟨hy0, hys⟩
  · go_wp2
    go_ret
    exact ⟨rfl, B2.out⟩
  have hyn : ¬ y < 0 := by omega
  have hll : l.length ≤ 1048576 := by omega
  have hlz : szL l ≤ 1048576 := by omega
  have hlen2 : r.l.length ≤ 1048576 := by omega
  have hszl2 : szL r.l ≤ 1048576 := by omega
  have hbz : r.b.size ≤ 1048576 := by omega
  have HI : Hid (∀ (W : World) (u : Value) (B : Nat), OwnsF W B u r.l → RsIn W u r) := fun W u B h2 => ⟨h2.fits10 hszl2 hlen2, hbz⟩
  have hto : Hid (∀ (W : World), Fls W (.slice ua r.l.length uc) r.l → Calls Tryz.prog 36 #[rsV r (.slice ua r.l.length uc)] W fun e w' => ∃ u2, e = .returned (rsV r u2) ∧ OwnsF w' W.heap.size u2 r.l ∧ Below W.heap.size W w') := fun W F => lawToRs r _ W F hlen2
  have heq : Hid (∀ (W : World) (u u' : Value), Fls W u r.l → Fls W u' r.l → Calls Tryz.prog 38 #[rsV r u, rsV r u'] W fun e w' => e = .returned (.bool true) ∧ Below W.heap.size W w') := fun W u u' F F' => lawEqRs r u u' W F F' hlen2
  have htf : Hid (∀ (W : World), Fls W (.slice za l.length zc) l → Calls Tryz.prog 35 #[.slice za l.length zc] W fun e w' => ∃ y2, e = .returned y2 ∧ OwnsF w' W.heap.size y2 l ∧ Below W.heap.size W w') := fun W F => toFS _ l W F hll
  have hef : Hid (∀ (W : World) (y y' : Value), Fls W y l → Fls W y' l → Calls Tryz.prog 37 #[y, y'] W fun e w' => e = .returned (.bool true) ∧ Below W.heap.size W w') := fun W y y' F F' => (eqFS y y' l W F F' hll).mono fun _ _ ⟨h1, h2⟩ => ⟨h1, h2.low⟩
  have HF : Hid (∀ (W : World) (y : Value) (B : Nat), OwnsF W B y l → Fits W y l) := fun W y B h1 => h1.fits10 hlz hll
  have hsp : Hid (∀ (W : World) (y u : Value), Fits W y l → RsIn W u r → Calls Tryz.prog 23 #[.string m, y, rsV r u] W fun e w' => e = .returned (.bool (stoV m l r)) ∧ Below W.heap.size W w') := fun W y u F G => specSto m y l r u W hm F G
  have him : Hid (∀ (W : World) (y u : Value), X W → Fits W y l → RsIn W u r → Calls Tryz.prog 22 #[.string m, y, rsV r u] W fun e w' => e = .returned (.bool (stoV m l r)) ∧ Below W.heap.size W w') := fun W y u x F G => hi m y l r u W x F G hm
  generalize stoV m l r = ans at hsp him
  unfold rsV at hto hsp him heq
  clear hx0 hxs hy0 hys hi hx1 
  have FD : Hid (Fls w2.drew (.slice ua r.l.length uc) r.l) := F2
  have YD : Hid (Fls w2.drew (.slice za l.length zc) l) := Y2
  have a0 := Q2.out.c0
  have a1 := Q2.out.c1
  have a2 := Q2.out.c2
  go_upto_region 10 with fail
  go_cut [8] (fun q wx => q = .bool ans ∧ Below w2.heap.size w2 wx)
  case first =>
    go_region_with (first
      | (go_at_call 35; refine (htf.out _ YD.out).mono ?_; rintro e w3 ⟨y3, rfl, hy3, hb3'⟩; have hb3 : Below w2.heap.size w2 w3 := ⟨hb3'.os, hb3'.tape, hb3'.output, hb3'.size, hb3'.block⟩; have Y3' := HF.out _ _ _ hy3; obtain ⟨Y3a, Y3c, rfl, _⟩ := hy3.form; have I3 : Hid (Fits w3 (.slice Y3a l.length Y3c) l) := Y3'; have C3 : Hid (Below w2.heap.size w2 w3) := hb3; have F3 : Hid (Fls w3 (.slice ua r.l.length uc) r.l) := F2.out.kept hb3; have Q3 : Hid (RsB w3 w.heap.size r (.slice ua r.l.length uc)) := Q2.out.next hb3; have b0 := Q3.out.c0; have b1 := Q3.out.c1; have b2 := Q3.out.c2; clear hb3 hb3' hy3 Y3')
      | (go_at_call 36; refine (hto.out _ F3.out).mono ?_; rintro e w4 ⟨u4, rfl, hu4, hb4⟩; have I4' := HI.out _ _ _ hu4; obtain ⟨E4, d4, rfl, _⟩ := hu4.form; have I4 : Hid (RsIn w4 (.slice E4 r.l.length d4) r) := I4'; have C4 : Hid (Below w2.heap.size w2 w4) := past6 C3.out hb4; have J4 : Hid (Fits w4 (.slice Y3a l.length Y3c) l) := I3.out.kept hb4; clear hb4 hu4 I4')
      | (go_at_call 23; refine (hsp.out _ _ _ J4.out I4.out).mono ?_; rintro e w5 ⟨rfl, hb5⟩; have C5 : Hid (Below w2.heap.size w2 w5) := past6 C4.out hb5; clear hb5))
    all_goals (go_wp2_with fail; go_meet; exact ⟨rfl, C5.out⟩)
  case rest =>
    obtain ⟨rfl, hb5⟩ := hcut
    obtain ⟨w5, rfl⟩ : ∃ z, z = wc := ⟨wc, rfl⟩
    have Q5 : Hid (RsB w5 w.heap.size r (.slice ua r.l.length uc)) := Q2.out.next hb5
    have B5 : Hid (Below w.heap.size w w5) := past6 B2.out hb5
    have F5 : Hid (Fls w5 (.slice ua r.l.length uc) r.l) := F2.out.kept hb5
    have Y5 : Hid (Fls w5 (.slice za l.length zc) l) := Y2.out.kept hb5
    have X5 : Hid (X w5) := HX.out _ _ X2.out hb5
    clear Q2 B2 F2 Y2 X2 FD YD hsp hb5 a0 a1 a2
    go_wp2_with fail
    refine (htf.out _ Y5.out).mono ?_
    rintro e w6 ⟨y6, rfl, hy6, hb6⟩
    have G6' := HF.out _ _ _ hy6
    obtain ⟨Y6a, Y6c, rfl, _⟩ := hy6.form
    have G6 : Hid (Fits w6 (.slice Y6a l.length Y6c) l) := G6'
    have Q6 : Hid (RsB w6 w.heap.size r (.slice ua r.l.length uc)) := Q5.out.next hb6
    have B6 : Hid (Below w.heap.size w w6) := past6 B5.out hb6
    have F6 : Hid (Fls w6 (.slice ua r.l.length uc) r.l) := F5.out.kept hb6
    have Y6 : Hid (Fls w6 (.slice za l.length zc) l) := Y5.out.kept hb6
    have X6 : Hid (X w6) := HX.out _ _ X5.out hb6
    clear Q5 B5 F5 Y5 X5 hb6 hy6 G6'
    have a0 := Q6.out.c0
    have a1 := Q6.out.c1
    have a2 := Q6.out.c2
    go_wp2_with fail
    refine (hto.out _ F6.out).mono ?_
    rintro e w7 ⟨u7, rfl, hu7, hb7⟩
    have I7' := HI.out _ _ _ (hu7.alloc (.cells #[.int .i64 r.s, u7, .string r.b] 26))
    have G7' : Fls (w7.alloc (.cells #[.int .i64 r.s, u7, .string r.b] 26)) u7 r.l := (hu7.alloc (.cells #[.int .i64 r.s, u7, .string r.b] 26)).fls
    obtain ⟨E7, d7, rfl, _⟩ := hu7.form
    have I7 : Hid (RsIn (w7.alloc (.cells #[.int .i64 r.s, .slice E7 r.l.length d7, .string r.b] 26)) (.slice E7 r.l.length d7) r) := I7'
    have G7 : Hid (Fls (w7.alloc (.cells #[.int .i64 r.s, .slice E7 r.l.length d7, .string r.b] 26)) (.slice E7 r.l.length d7) r.l) := G7'
    have Q7 : Hid (RsB (w7.alloc (.cells #[.int .i64 r.s, .slice E7 r.l.length d7, .string r.b] 26)) w.heap.size r (.slice ua r.l.length uc)) := (Q6.out.next hb7).alloc _
    have P7 : Hid (RsB (w7.alloc (.cells #[.int .i64 r.s, .slice E7 r.l.length d7, .string r.b] 26)) w7.heap.size r (.slice E7 r.l.length d7)) := RsB.new w7 r _ _
    have B7 : Hid (Below w.heap.size w (w7.alloc (.cells #[.int .i64 r.s, .slice E7 r.l.length d7, .string r.b] 26))) := (past6 B6.out hb7).alloc (past6 B6.out hb7).size _
    have F7 : Hid (Fls (w7.alloc (.cells #[.int .i64 r.s, .slice E7 r.l.length d7, .string r.b] 26)) (.slice ua r.l.length uc) r.l) := (F6.out.kept hb7).kept ((Below.refl _ w7).alloc (Nat.le_refl _) _)
    have Y7 : Hid (Fls (w7.alloc (.cells #[.int .i64 r.s, .slice E7 r.l.length d7, .string r.b] 26)) (.slice za l.length zc) l) := (Y6.out.kept hb7).kept ((Below.refl _ w7).alloc (Nat.le_refl _) _)
    have L7 : Hid (Fits (w7.alloc (.cells #[.int .i64 r.s, .slice E7 r.l.length d7, .string r.b] 26)) (.slice Y6a l.length Y6c) l) := (G6.out.kept hb7).kept ((Below.refl _ w7).alloc (Nat.le_refl _) _)
    have X7 : Hid (X (w7.alloc (.cells #[.int .i64 r.s, .slice E7 r.l.length d7, .string r.b] 26))) := HX.out _ _ (HX.out _ _ X6.out hb7) ((Below.refl _ w7).alloc (Nat.le_refl _) _)
    clear a0 a1 a2 Q6 B6 F6 Y6 X6 G6 hb7 hu7 I7' G7'
    go_wp2_with fail
    refine (him.out _ _ _ X7.out L7.out I7.out).mono ?_
    rintro e w8 ⟨rfl, hb8⟩
    have Q8 : Hid (RsB w8 w.heap.size r (.slice ua r.l.length uc)) := Q7.out.next hb8
    have B8 : Hid (Below w.heap.size w w8) := past6 B7.out hb8
    have F8 : Hid (Fls w8 (.slice ua r.l.length uc) r.l) := F7.out.kept hb8
    have Y8 : Hid (Fls w8 (.slice za l.length zc) l) := Y7.out.kept hb8
    have X8 : Hid (X w8) := HX.out _ _ X7.out hb8
    have P8 : Hid (RsB w8 w7.heap.size r (.slice E7 r.l.length d7)) := P7.out.next hb8
    have G8 : Hid (Fls w8 (.slice E7 r.l.length d7) r.l) := G7.out.kept hb8
    have L8 : Hid (Fits w8 (.slice Y6a l.length Y6c) l) := L7.out.kept hb8
    clear Q7 P7 B7 F7 Y7 L7 X7 G7 I7 hb8 him
    go_wp2_with fail
    refine (htf.out _ Y8.out).mono ?_
    rintro e w9 ⟨y9, rfl, hy9, hb9⟩
    have M9' := hy9.fls
    obtain ⟨Y9a, Y9c, rfl, _⟩ := hy9.form
    have M9 : Hid (Fls w9 (.slice Y9a l.length Y9c) l) := M9'
    have Q9 : Hid (RsB w9 w.heap.size r (.slice ua r.l.length uc)) := Q8.out.next hb9
    have B9 : Hid (Below w.heap.size w w9) := past6 B8.out hb9
    have F9 : Hid (Fls w9 (.slice ua r.l.length uc) r.l) := F8.out.kept hb9
    have Y9 : Hid (Fls w9 (.slice za l.length zc) l) := Y8.out.kept hb9
    have X9 : Hid (X w9) := HX.out _ _ X8.out hb9
    have P9 : Hid (RsB w9 w7.heap.size r (.slice E7 r.l.length d7)) := P8.out.next hb9
    have G9 : Hid (Fls w9 (.slice E7 r.l.length d7) r.l) := G8.out.kept hb9
    have L9 : Hid (Fits w9 (.slice Y6a l.length Y6c) l) := L8.out.kept hb9
    clear Q8 P8 B8 F8 Y8 L8 X8 G8 hb9 hy9 M9' htf
    go_wp2_with fail
    refine (hef.out _ _ _ L9.out.1 M9.out).mono ?_
    rintro e w10 ⟨rfl, hb10⟩
    have Q10 : Hid (RsB w10 w.heap.size r (.slice ua r.l.length uc)) := Q9.out.next hb10
    have P10 : Hid (RsB w10 w7.heap.size r (.slice E7 r.l.length d7)) := P9.out.next hb10
    have B10 : Hid (Below w.heap.size w w10) := past6 B9.out hb10
    have F10' : Fls w10 (.slice ua r.l.length uc) r.l := F9.out.kept hb10
    have F10 : Hid (Fls w10.drew (.slice ua r.l.length uc) r.l) := F10'
    have G10' : Fls w10 (.slice E7 r.l.length d7) r.l := G9.out.kept hb10
    have G10 : Hid (Fls w10.drew (.slice E7 r.l.length d7) r.l) := G10'
    clear Q9 P9 B9 F9 Y9 L9 X9 G9 M9 hb10 hef F10' G10'
    have a0 := Q10.out.c0
    have a1 := Q10.out.c1
    have a2 := Q10.out.c2
    have p0 := P10.out.c0
    have p1 := P10.out.c1
    have p2 := P10.out.c2
    go_wp2
    go_region_with (first
      | (go_at_call 36; refine (hto.out _ F10.out).mono ?_; rintro e w11 ⟨u11, rfl, hu11, hb11⟩; have N6' : Fls w11 u11 r.l := hu11.fls; obtain ⟨E11, d11, rfl, _⟩ := hu11.form; have N6 : Hid (Fls w11 (.slice E11 r.l.length d11) r.l) := N6'; have H6 : Hid (Fls w11 (.slice E7 r.l.length d7) r.l) := G10.out.kept hb11; have hb11' : Below w10.heap.size w10 w11 := ⟨hb11.os, hb11.tape, hb11.output, hb11.size, hb11.block⟩; have B11 : Hid (Below w.heap.size w w11) := past6 B10.out hb11'; have P11 : Hid (RsB w11 w7.heap.size r (.slice E7 r.l.length d7)) := P10.out.next hb11'; have q0 := P11.out.c0; have q1 := P11.out.c1; have q2 := P11.out.c2; clear hb11 hb11' hu11 N6')
      | (go_at_call 38; refine (heq.out _ _ _ H6.out N6.out).mono ?_; rintro e w12 ⟨rfl, hb12⟩))
    all_goals
      go_wp2
      go_ret
      exact ⟨rfl, past6 B11.out hb12⟩
end Go.Proofs.YtkaogmdhjcgcdaaGreatDoor
