/-
  The laws' own copies and comparisons of requests and responses, by their contracts.
-/
import Derived.Test.YtmgmphkncgochaaDoorMsgF
namespace Go.Proofs.YtmgmphkncgochaaDoor
open Go.RowKit Go.Sort
set_option linter.unusedVariables false

theorem OwnsF.far {w : World} {B b k : Nat} {v : Value} {l : List Fl} (h : OwnsF w B v l) (hb : b < B) (x : Value) : OwnsF (w.setCell ⟨b, k, none⟩ x) B v l := by
  refine ⟨h.1, ?_⟩
  rcases h.2 with h0 | ⟨g, cap, cur, hv, hbg, hg, rest⟩
  · exact .inl h0
  · exact .inr ⟨g, cap, cur, hv, hbg, by rw [Below.heap_setCell _ _ _ _ (by show g ≠ b; omega)]; exact hg, rest⟩
def outQ (r : Rq) : Rq := ⟨r.m, r.t, [], ⟨#[]⟩⟩
def outS (r : Rs) : Rs := ⟨r.s, [], ⟨#[]⟩⟩
def rqCells (m t : ByteArray) (v : Value) (b : ByteArray) (ty : TypeId) : Obj := .cells #[.string m, .string t, v, .string b] ty
theorem three_rq (w : World) (r : Rq) (v : Value) :
    RqB (((w.alloc (.cells #[.string r.m, .string r.t, v, .string r.b] 24)).alloc (.cells #[.string ⟨#[]⟩, .string ⟨#[]⟩, .slice none 0 0, .string ⟨#[]⟩] 29)).alloc (.cells #[.string r.m, .string r.t, .slice none 0 0, .string ⟨#[]⟩] 29)) w.heap.size r v ∧
    RqB (((w.alloc (.cells #[.string r.m, .string r.t, v, .string r.b] 24)).alloc (.cells #[.string ⟨#[]⟩, .string ⟨#[]⟩, .slice none 0 0, .string ⟨#[]⟩] 29)).alloc (.cells #[.string r.m, .string r.t, .slice none 0 0, .string ⟨#[]⟩] 29)) (w.heap.size + 1) noQ (.slice none 0 0) ∧
    RqB (((w.alloc (.cells #[.string r.m, .string r.t, v, .string r.b] 24)).alloc (.cells #[.string ⟨#[]⟩, .string ⟨#[]⟩, .slice none 0 0, .string ⟨#[]⟩] 29)).alloc (.cells #[.string r.m, .string r.t, .slice none 0 0, .string ⟨#[]⟩] 29)) (w.heap.size + 1 + 1) (outQ r) (.slice none 0 0) ∧
    Below w.heap.size w (((w.alloc (.cells #[.string r.m, .string r.t, v, .string r.b] 24)).alloc (.cells #[.string ⟨#[]⟩, .string ⟨#[]⟩, .slice none 0 0, .string ⟨#[]⟩] 29)).alloc (.cells #[.string r.m, .string r.t, .slice none 0 0, .string ⟨#[]⟩] 29)) ∧
    (((w.alloc (.cells #[.string r.m, .string r.t, v, .string r.b] 24)).alloc (.cells #[.string ⟨#[]⟩, .string ⟨#[]⟩, .slice none 0 0, .string ⟨#[]⟩] 29)).alloc (.cells #[.string r.m, .string r.t, .slice none 0 0, .string ⟨#[]⟩] 29)).heap.size = w.heap.size + 3 := by
  refine ⟨((RqB.new w r v _).alloc _).alloc _, ?_, ?_, ?_, by simp⟩
  · have := RqB.new (w.alloc (.cells #[.string r.m, .string r.t, v, .string r.b] 24)) noQ (.slice none 0 0) 29
    rw [show (w.alloc (.cells #[.string r.m, .string r.t, v, .string r.b] 24)).heap.size = w.heap.size + 1 by simp] at this
    exact this.alloc _
  · have := RqB.new ((w.alloc (.cells #[.string r.m, .string r.t, v, .string r.b] 24)).alloc (.cells #[.string ⟨#[]⟩, .string ⟨#[]⟩, .slice none 0 0, .string ⟨#[]⟩] 29)) (outQ r) (.slice none 0 0) 29
    rw [show ((w.alloc (.cells #[.string r.m, .string r.t, v, .string r.b] 24)).alloc (.cells #[.string ⟨#[]⟩, .string ⟨#[]⟩, .slice none 0 0, .string ⟨#[]⟩] 29)).heap.size = w.heap.size + 1 + 1 by simp] at this
    exact this
  · exact (((Below.refl _ w).alloc (Nat.le_refl _) _).alloc (by simp) _).alloc (by simp; omega) _
set_option maxHeartbeats 1000000 in
theorem lawToRq (r : Rq) (v : Value) (w : World) (h : Fls w v r.l) (hl : r.l.length ≤ 1048576) :
    Calls Tryd.prog 10 #[rqV r v] w fun e w' => ∃ u, e = .returned (rqV r u) ∧ OwnsF w' w.heap.size u r.l ∧ Below w.heap.size w w' := by
  have hfs := h
  obtain ⟨a, cap, rfl, hcap⟩ := hfs
  clear hcap
  unfold rqV
  obtain ⟨q0, q1, q2, q3, q4⟩ := three_rq w r (.slice a r.l.length cap)
  have HC := toFS _ r.l _ (h.kept q3) hl
  have Q0 : Hid _ := q0
  have Q1 : Hid _ := q1
  have Q2 : Hid _ := q2
  have Q3 : Hid _ := q3
  have Q4 : Hid _ := q4
  clear h q0 q1 q2 q3 q4
  go_enter Tryd.func10, Tryd.ntmps10
  go_wp2_with fail
  refine HC.mono ?_
  rintro e w4 ⟨u, rfl, ho, hb4⟩
  have B4 : Hid (Below w.heap.size w w4) := past6 Q3.out hb4
  have s0 : Hid (RqB w4 w.heap.size r (.slice a r.l.length cap)) := Q0.out.next hb4
  have s1 : Hid (RqB w4 (w.heap.size + 1) noQ (.slice none 0 0)) := Q1.out.next hb4
  have s2 : Hid (RqB w4 (w.heap.size + 1 + 1) (outQ r) (.slice none 0 0)) := Q2.out.next hb4
  rw [Q4.out] at ho
  obtain ⟨A2, cap2, rfl, hcl, hcm⟩ := ho.form
  have HO : Hid (OwnsF w4 (w.heap.size + 3) (.slice A2 r.l.length cap2) r.l) := ho
  clear ho HC Q0 Q1 Q2 Q3 Q4 hb4
  have a3 := s0.out.c3
  have z0 := s1.out.c0
  have z1 := s1.out.c1
  have z2 := s1.out.c2
  have z3 := s1.out.c3
  have zf := s1.out.fz
  have o0 : w4.cell? ⟨w.heap.size + 1 + 1, 0, none⟩ = some (.string r.m) := s2.out.c0
  have o1 : w4.cell? ⟨w.heap.size + 1 + 1, 1, none⟩ = some (.string r.t) := s2.out.c1
  have o2 := s2.out.c2
  have o3 := s2.out.c3
  have of := s2.out.fz
  clear s0 s1 s2
  go_wp2
  refine bodyPost_ret (v := .agg #[.string r.m, .string r.t, .slice A2 r.l.length cap2, .string r.b]) (by simp [results, Tryd.results10, go_sem, z0, z1, z2, z3]) rfl ⟨_, rfl, ?_, ?_⟩
  · refine OwnsF.low (B := w.heap.size + 3) ?_ (by omega)
    repeat (refine OwnsF.far ?_ (by omega) _)
    exact HO.out
  · repeat (refine Below.setCell ?_ (by simp <;> omega) _)
    exact B4.out
theorem three_rs (w : World) (r : Rs) (v : Value) :
    RsB (((w.alloc (.cells #[.int .i64 r.s, v, .string r.b] 34)).alloc (.cells #[.int .i64 0, .slice none 0 0, .string ⟨#[]⟩] 38)).alloc (.cells #[.int .i64 r.s, .slice none 0 0, .string ⟨#[]⟩] 38)) w.heap.size r v ∧
    RsB (((w.alloc (.cells #[.int .i64 r.s, v, .string r.b] 34)).alloc (.cells #[.int .i64 0, .slice none 0 0, .string ⟨#[]⟩] 38)).alloc (.cells #[.int .i64 r.s, .slice none 0 0, .string ⟨#[]⟩] 38)) (w.heap.size + 1) noS (.slice none 0 0) ∧
    RsB (((w.alloc (.cells #[.int .i64 r.s, v, .string r.b] 34)).alloc (.cells #[.int .i64 0, .slice none 0 0, .string ⟨#[]⟩] 38)).alloc (.cells #[.int .i64 r.s, .slice none 0 0, .string ⟨#[]⟩] 38)) (w.heap.size + 1 + 1) (outS r) (.slice none 0 0) ∧
    Below w.heap.size w (((w.alloc (.cells #[.int .i64 r.s, v, .string r.b] 34)).alloc (.cells #[.int .i64 0, .slice none 0 0, .string ⟨#[]⟩] 38)).alloc (.cells #[.int .i64 r.s, .slice none 0 0, .string ⟨#[]⟩] 38)) ∧
    (((w.alloc (.cells #[.int .i64 r.s, v, .string r.b] 34)).alloc (.cells #[.int .i64 0, .slice none 0 0, .string ⟨#[]⟩] 38)).alloc (.cells #[.int .i64 r.s, .slice none 0 0, .string ⟨#[]⟩] 38)).heap.size = w.heap.size + 3 := by
  refine ⟨((RsB.new w r v _).alloc _).alloc _, ?_, ?_, ?_, by simp⟩
  · have := RsB.new (w.alloc (.cells #[.int .i64 r.s, v, .string r.b] 34)) noS (.slice none 0 0) 38
    rw [show (w.alloc (.cells #[.int .i64 r.s, v, .string r.b] 34)).heap.size = w.heap.size + 1 by simp] at this
    exact this.alloc _
  · have := RsB.new ((w.alloc (.cells #[.int .i64 r.s, v, .string r.b] 34)).alloc (.cells #[.int .i64 0, .slice none 0 0, .string ⟨#[]⟩] 38)) (outS r) (.slice none 0 0) 38
    rw [show ((w.alloc (.cells #[.int .i64 r.s, v, .string r.b] 34)).alloc (.cells #[.int .i64 0, .slice none 0 0, .string ⟨#[]⟩] 38)).heap.size = w.heap.size + 1 + 1 by simp] at this
    exact this
  · exact (((Below.refl _ w).alloc (Nat.le_refl _) _).alloc (by simp) _).alloc (by simp; omega) _
set_option maxHeartbeats 1000000 in
theorem lawToRs (r : Rs) (v : Value) (w : World) (h : Fls w v r.l) (hl : r.l.length ≤ 1048576) :
    Calls Tryd.prog 15 #[rsV r v] w fun e w' => ∃ u, e = .returned (rsV r u) ∧ OwnsF w' w.heap.size u r.l ∧ Below w.heap.size w w' := by
  have hfs := h
  obtain ⟨a, cap, rfl, hcap⟩ := hfs
  clear hcap
  unfold rsV
  obtain ⟨q0, q1, q2, q3, q4⟩ := three_rs w r (.slice a r.l.length cap)
  have HC := toFS _ r.l _ (h.kept q3) hl
  have Q0 : Hid _ := q0
  have Q1 : Hid _ := q1
  have Q2 : Hid _ := q2
  have Q3 : Hid _ := q3
  have Q4 : Hid _ := q4
  clear h q0 q1 q2 q3 q4
  go_enter Tryd.func15, Tryd.ntmps15
  go_wp2_with fail
  refine HC.mono ?_
  rintro e w4 ⟨u, rfl, ho, hb4⟩
  have B4 : Hid (Below w.heap.size w w4) := past6 Q3.out hb4
  have s0 : Hid (RsB w4 w.heap.size r (.slice a r.l.length cap)) := Q0.out.next hb4
  have s1 : Hid (RsB w4 (w.heap.size + 1) noS (.slice none 0 0)) := Q1.out.next hb4
  have s2 : Hid (RsB w4 (w.heap.size + 1 + 1) (outS r) (.slice none 0 0)) := Q2.out.next hb4
  rw [Q4.out] at ho
  obtain ⟨A2, cap2, rfl, hcl, hcm⟩ := ho.form
  have HO : Hid (OwnsF w4 (w.heap.size + 3) (.slice A2 r.l.length cap2) r.l) := ho
  clear ho HC Q0 Q1 Q2 Q3 Q4 hb4
  have a2 := s0.out.c2
  have z0 := s1.out.c0
  have z1 := s1.out.c1
  have z2 := s1.out.c2
  have zf := s1.out.fz
  have o0 : w4.cell? ⟨w.heap.size + 1 + 1, 0, none⟩ = some (.int .i64 r.s) := s2.out.c0
  have o1 := s2.out.c1
  have o2 := s2.out.c2
  have of := s2.out.fz
  clear s0 s1 s2
  go_wp2
  refine bodyPost_ret (v := .agg #[.int .i64 r.s, .slice A2 r.l.length cap2, .string r.b]) (by simp [results, Tryd.results15, go_sem, z0, z1, z2]) rfl ⟨_, rfl, ?_, ?_⟩
  · refine OwnsF.low (B := w.heap.size + 3) ?_ (by omega)
    repeat (refine OwnsF.far ?_ (by omega) _)
    exact HO.out
  · repeat (refine Below.setCell ?_ (by simp <;> omega) _)
    exact B4.out
set_option maxHeartbeats 1000000 in
theorem lawEqRq (r : Rq) (va vb : Value) (w : World) (ha : Fls w va r.l) (hb : Fls w vb r.l) (hl : r.l.length ≤ 1048576) :
    Calls Tryd.prog 12 #[rqV r va, rqV r vb] w fun e w' => e = .returned (.bool true) ∧ Below w.heap.size w w' := by
  have hfa := ha
  have hfb := hb
  obtain ⟨a, ca, rfl, _⟩ := hfa
  obtain ⟨b, cb, rfl, _⟩ := hfb
  unfold rqV
  have B0 : Below w.heap.size w ((w.alloc (.cells #[.string r.m, .string r.t, .slice a r.l.length ca, .string r.b] 29)).alloc (.cells #[.string r.m, .string r.t, .slice b r.l.length cb, .string r.b] 29)) := ((Below.refl _ w).alloc (Nat.le_refl _) _).alloc (by simp) _
  have hq := eqFS _ _ r.l _ (ha.kept B0) (hb.kept B0) hl
  have P0 : Hid (RqB ((w.alloc (.cells #[.string r.m, .string r.t, .slice a r.l.length ca, .string r.b] 29)).alloc (.cells #[.string r.m, .string r.t, .slice b r.l.length cb, .string r.b] 29)) w.heap.size r (.slice a r.l.length ca)) := (RqB.new w r _ _).alloc _
  have P1 : Hid (RqB ((w.alloc (.cells #[.string r.m, .string r.t, .slice a r.l.length ca, .string r.b] 29)).alloc (.cells #[.string r.m, .string r.t, .slice b r.l.length cb, .string r.b] 29)) (w.heap.size + 1) r (.slice b r.l.length cb)) := by
    have := RqB.new (w.alloc (.cells #[.string r.m, .string r.t, .slice a r.l.length ca, .string r.b] 29)) r (.slice b r.l.length cb) 29
    rw [show (w.alloc (.cells #[.string r.m, .string r.t, .slice a r.l.length ca, .string r.b] 29)).heap.size = w.heap.size + 1 by simp] at this
    exact this
  have HB : Hid _ := B0
  clear ha hb B0
  go_enter Tryd.func12, Tryd.ntmps12
  go_wp2_with fail
  refine hq.mono ?_
  rintro e w1 ⟨rfl, hg⟩
  have S0 : Hid (RqB w1 w.heap.size r (.slice a r.l.length ca)) := P0.out.next hg.low
  have S1 : Hid (RqB w1 (w.heap.size + 1) r (.slice b r.l.length cb)) := P1.out.next hg.low
  have B1 : Hid (Below w.heap.size w w1) := past6 HB.out hg.low
  have a3 := S0.out.c3
  have b3 := S1.out.c3
  clear P0 P1 HB hg hq S0 S1
  go_wp2
  go_ret
  exact ⟨rfl, B1.out⟩
set_option maxHeartbeats 1000000 in
theorem lawEqRs (r : Rs) (va vb : Value) (w : World) (ha : Fls w va r.l) (hb : Fls w vb r.l) (hl : r.l.length ≤ 1048576) :
    Calls Tryd.prog 17 #[rsV r va, rsV r vb] w fun e w' => e = .returned (.bool true) ∧ Below w.heap.size w w' := by
  have hfa := ha
  have hfb := hb
  obtain ⟨a, ca, rfl, _⟩ := hfa
  obtain ⟨b, cb, rfl, _⟩ := hfb
  unfold rsV
  have B0 : Below w.heap.size w ((w.alloc (.cells #[.int .i64 r.s, .slice a r.l.length ca, .string r.b] 38)).alloc (.cells #[.int .i64 r.s, .slice b r.l.length cb, .string r.b] 38)) := ((Below.refl _ w).alloc (Nat.le_refl _) _).alloc (by simp) _
  have hq := eqFS _ _ r.l _ (ha.kept B0) (hb.kept B0) hl
  have P0 : Hid (RsB ((w.alloc (.cells #[.int .i64 r.s, .slice a r.l.length ca, .string r.b] 38)).alloc (.cells #[.int .i64 r.s, .slice b r.l.length cb, .string r.b] 38)) w.heap.size r (.slice a r.l.length ca)) := (RsB.new w r _ _).alloc _
  have P1 : Hid (RsB ((w.alloc (.cells #[.int .i64 r.s, .slice a r.l.length ca, .string r.b] 38)).alloc (.cells #[.int .i64 r.s, .slice b r.l.length cb, .string r.b] 38)) (w.heap.size + 1) r (.slice b r.l.length cb)) := by
    have := RsB.new (w.alloc (.cells #[.int .i64 r.s, .slice a r.l.length ca, .string r.b] 38)) r (.slice b r.l.length cb) 38
    rw [show (w.alloc (.cells #[.int .i64 r.s, .slice a r.l.length ca, .string r.b] 38)).heap.size = w.heap.size + 1 by simp] at this
    exact this
  have HB : Hid _ := B0
  clear ha hb B0
  go_enter Tryd.func17, Tryd.ntmps17
  go_wp2_with fail
  refine hq.mono ?_
  rintro e w1 ⟨rfl, hg⟩
  have S0 : Hid (RsB w1 w.heap.size r (.slice a r.l.length ca)) := P0.out.next hg.low
  have S1 : Hid (RsB w1 (w.heap.size + 1) r (.slice b r.l.length cb)) := P1.out.next hg.low
  have B1 : Hid (Below w.heap.size w w1) := past6 HB.out hg.low
  have a2 := S0.out.c2
  have b2 := S1.out.c2
  clear P0 P1 HB hg hq S0 S1
  go_wp2
  go_ret
  exact ⟨rfl, B1.out⟩
end Go.Proofs.YtmgmphkncgochaaDoor
