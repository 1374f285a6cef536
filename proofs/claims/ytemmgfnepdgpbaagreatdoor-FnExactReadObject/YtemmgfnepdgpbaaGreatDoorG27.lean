/-
  The laws' own copies and comparisons of requests and responses, by their contracts.
  The laws' own copies and comparisons of objects, by their contracts.
  Objects in memory: all cells stored; fields that came in, appended to a row of one's own.
-/
import Derived.Test.YtemmgfnepdgpbaaGreatDoorG23
import Derived.Test.YtemmgfnepdgpbaaGreatDoorG21
import Derived.ProofKit
import Derived.OpenShut
import Derived.ShutString
import Derived.Lib.SmallJoins
import Derived.Test.YtemmgfnepdgpbaaGreatDoorG26
import Derived.Test.YtemmgfnepdgpbaaGreatDoorG19
import Derived.Test.YtemmgfnepdgpbaaGreatDoorG20
import Derived.Laws.Append
import Derived.Test.YtemmgfnepdgpbaaGreatDoorG25
import Derived.Laws.AppendOwnNone
namespace Go.Proofs.YtemmgfnepdgpbaaGreatDoor
open Go.RowKit Go.Sort
set_option linter.unusedVariables false

theorem OwnsF.far {w : World} {B b k : Nat} {v : Value} {l : List Fl} (h : OwnsF w B v l) (hb : b < B) (x : Value) : OwnsF (w.setCell ⟨b, k, none⟩ x) B v l := by
  refine ⟨h.1, ?_⟩
  rcases h.2 with h0 | ⟨g, cap, cur, hv, hbg, hg, rest⟩
  · exact .inl h0
  · exact .inr ⟨g, cap, cur, hv, hbg, by rw [Below.heap_setCell _ _ _ _ (by show g ≠ b; omega)]; exact hg, rest⟩
set_option maxHeartbeats 1000000 in
theorem lawEqRs (r : Rs) (va vb : Value) (w : World) (ha : Fls w va r.l) (hb : Fls w vb r.l) (hl : r.l.length ≤ 1048576) :
    Calls Tryz.prog 48 #[rsV r va, rsV r vb] w fun e w' => e = .returned (.bool true) ∧ Below w.heap.size w w' := by
  have hfa := ha
  have hfb := hb
  obtain ⟨a, ca, rfl, _⟩ := hfa
  obtain ⟨b, cb, rfl, _⟩ := hfb
  unfold rsV
  have B0 : Below w.heap.size w ((w.alloc (.cells #[.int .i64 r.s, .slice a r.l.length ca, .string r.b] 26)).alloc (.cells #[.int .i64 r.s, .slice b r.l.length cb, .string r.b] 26)) := ((Below.refl _ w).alloc (Nat.le_refl _) _).alloc (by simp) _
  have hq := eqFS _ _ r.l _ (ha.kept B0) (hb.kept B0) hl
  have P0 : Hid (RsB ((w.alloc (.cells #[.int .i64 r.s, .slice a r.l.length ca, .string r.b] 26)).alloc (.cells #[.int .i64 r.s, .slice b r.l.length cb, .string r.b] 26)) w.heap.size r (.slice a r.l.length ca)) := (RsB.new w r _ _).alloc _
  have P1 : Hid (RsB ((w.alloc (.cells #[.int .i64 r.s, .slice a r.l.length ca, .string r.b] 26)).alloc (.cells #[.int .i64 r.s, .slice b r.l.length cb, .string r.b] 26)) (w.heap.size + 1) r (.slice b r.l.length cb)) := by
    have := RsB.new (w.alloc (.cells #[.int .i64 r.s, .slice a r.l.length ca, .string r.b] 26)) r (.slice b r.l.length cb) 26
    rw [show (w.alloc (.cells #[.int .i64 r.s, .slice a r.l.length ca, .string r.b] 26)).heap.size = w.heap.size + 1 by simp] at this
    exact this
  have HB : Hid _ := B0
  clear ha hb B0
  go_enter Tryz.func48, Tryz.ntmps48
  go_wp2_with fail
  refine hq.mono ?_
  rintro e w1 ⟨rfl, hg⟩
  have S0 : Hid (RsB w1 w.heap.size r (.slice a r.l.length ca)) := P0.out.next hg.low
  have S1 : Hid (RsB w1 (w.heap.size + 1) r (.slice b r.l.length cb)) := P1.out.next hg.low
  have B1 : Hid (Below w.heap.size w w1) := past6 HB.out hg.low
  have a2 := S0.out.c2
  have b2 := S1.out.c2
  clear P0 P1 HB hg hq S0 S1
  go_wp2
  go_ret
  exact ⟨rfl, B1.out⟩
end Go.Proofs.YtemmgfnepdgpbaaGreatDoor
namespace Go.Proofs.YtemmgfnepdgpbaaGreatDoor
open Go.RowKit Go.Sort
set_option linter.unusedVariables false

def noO : Ob := ⟨⟨#[]⟩, [], noS, 0, 0, 0⟩
theorem ObB.alloc {w : World} {b : Nat} {o : Ob} {v u : Value} (h : ObB w b o v u) (x : Obj) : ObB (w.alloc x) b o v u := h.next ((Below.refl _ w).alloc (Nat.le_refl _) _)
theorem ObB.put1 {w : World} {b : Nat} {o : Ob} {v u : Value} (h : ObB w b o v u) (x : Value) : ObB (w.setCell ⟨b, 1, none⟩ x) b o x u where
  c0 := by rw [World.cell?_setCell_other _ _ _ _ (by simp)]; exact h.c0
  c1 := World.cell?_setCell_same _ _ _ h.c1
  c2 := by rw [World.cell?_setCell_other _ _ _ _ (by simp)]; exact h.c2
  c3 := by rw [World.cell?_setCell_other _ _ _ _ (by simp)]; exact h.c3
  c4 := by rw [World.cell?_setCell_other _ _ _ _ (by simp)]; exact h.c4
  c5 := by rw [World.cell?_setCell_other _ _ _ _ (by simp)]; exact h.c5
  c6 := by rw [World.cell?_setCell_other _ _ _ _ (by simp)]; exact h.c6
  c7 := by rw [World.cell?_setCell_other _ _ _ _ (by simp)]; exact h.c7
  fz := fun k => by rw [World.frozen?_setCell]; exact h.fz k
  hi := by rw [World.size_setCell]; exact h.hi
theorem ObB.far {w : World} {b c k : Nat} {o : Ob} {v u : Value} (h : ObB w b o v u) (hc : c ≠ b) (x : Value) : ObB (w.setCell ⟨c, k, none⟩ x) b o v u := by
  have e : ∀ j, (w.setCell ⟨c, k, none⟩ x).cell? ⟨b, j, none⟩ = w.cell? ⟨b, j, none⟩ := fun j => World.cell?_setCell_other _ _ _ _ (fun e => hc (by injection e))
  exact ⟨(e 0).trans h.c0, (e 1).trans h.c1, (e 2).trans h.c2, (e 3).trans h.c3, (e 4).trans h.c4, (e 5).trans h.c5, (e 6).trans h.c6, (e 7).trans h.c7, fun j => by rw [World.frozen?_setCell]; exact h.fz j, by rw [World.size_setCell]; exact h.hi⟩
set_option maxHeartbeats 4000000 in
theorem lawEqOb (o : Ob) (va vb ua ub : Value) (w : World) (ha : Fls w va o.l) (hb : Fls w vb o.l) (ra : Fls w ua o.r.l) (rb : Fls w ub o.r.l) (hl : o.l.length ≤ 1048576) (hl2 : o.r.l.length ≤ 1048576) (hk : o.k.size ≤ 1048576) :
    Calls Tryz.prog 16 #[obV o va ua, obV o vb ub] w fun e w' => e = .returned (.bool true) ∧ Below w.heap.size w w' := by
  have hfa := ha
  have hfb := hb
  have hga := ra
  have hgb := rb
  obtain ⟨a, ca, rfl, _⟩ := hfa
  obtain ⟨b, cb, rfl, _⟩ := hfb
  obtain ⟨c, cc, rfl, _⟩ := hga
  obtain ⟨d, cd, rfl, _⟩ := hgb
  unfold obV
  have B0 : Below w.heap.size w ((w.alloc (.cells #[.string o.k, .slice a o.l.length ca, .int .i64 o.r.s, .slice c o.r.l.length cc, .string o.r.b, .int .i64 o.asked, .int .i64 o.got, .int .i64 o.ep] 28)).alloc (.cells #[.string o.k, .slice b o.l.length cb, .int .i64 o.r.s, .slice d o.r.l.length cd, .string o.r.b, .int .i64 o.asked, .int .i64 o.got, .int .i64 o.ep] 28)) := ((Below.refl _ w).alloc (Nat.le_refl _) _).alloc (by simp) _
  have hq := eqFS _ _ o.l _ (ha.kept B0) (hb.kept B0) hl
  have j2 := fun W h1 h2 => lawEqRs o.r (.slice c o.r.l.length cc) (.slice d o.r.l.length cd) W h1 h2 hl2
  unfold rsV at j2
  have RA : Hid (Fls w (.slice c o.r.l.length cc) o.r.l) := ra
  have RB : Hid (Fls w (.slice d o.r.l.length cd) o.r.l) := rb
  have P0 : Hid (ObB ((w.alloc (.cells #[.string o.k, .slice a o.l.length ca, .int .i64 o.r.s, .slice c o.r.l.length cc, .string o.r.b, .int .i64 o.asked, .int .i64 o.got, .int .i64 o.ep] 28)).alloc (.cells #[.string o.k, .slice b o.l.length cb, .int .i64 o.r.s, .slice d o.r.l.length cd, .string o.r.b, .int .i64 o.asked, .int .i64 o.got, .int .i64 o.ep] 28)) w.heap.size o (.slice a o.l.length ca) (.slice c o.r.l.length cc)) := (ObB.new w o _ _ _).alloc _
  have P1 : Hid (ObB ((w.alloc (.cells #[.string o.k, .slice a o.l.length ca, .int .i64 o.r.s, .slice c o.r.l.length cc, .string o.r.b, .int .i64 o.asked, .int .i64 o.got, .int .i64 o.ep] 28)).alloc (.cells #[.string o.k, .slice b o.l.length cb, .int .i64 o.r.s, .slice d o.r.l.length cd, .string o.r.b, .int .i64 o.asked, .int .i64 o.got, .int .i64 o.ep] 28)) (w.heap.size + 1) o (.slice b o.l.length cb) (.slice d o.r.l.length cd)) := by
    have := ObB.new (w.alloc (.cells #[.string o.k, .slice a o.l.length ca, .int .i64 o.r.s, .slice c o.r.l.length cc, .string o.r.b, .int .i64 o.asked, .int .i64 o.got, .int .i64 o.ep] 28)) o (.slice b o.l.length cb) (.slice d o.r.l.length cd) 28
    rw [show (w.alloc (.cells #[.string o.k, .slice a o.l.length ca, .int .i64 o.r.s, .slice c o.r.l.length cc, .string o.r.b, .int .i64 o.asked, .int .i64 o.got, .int .i64 o.ep] 28)).heap.size = w.heap.size + 1 by simp] at this
    exact this
  have HB : Hid _ := B0
  clear ha hb ra rb B0
  go_enter Tryz.func16, Tryz.ntmps16
  go_wp2_with fail
  refine hq.mono ?_
  rintro e w1 ⟨rfl, hg⟩
  have S0 : Hid (ObB w1 w.heap.size o (.slice a o.l.length ca) (.slice c o.r.l.length cc)) := P0.out.next hg.low
  have S1 : Hid (ObB w1 (w.heap.size + 1) o (.slice b o.l.length cb) (.slice d o.r.l.length cd)) := P1.out.next hg.low
  have B1 : Hid (Below w.heap.size w w1) := past6 HB.out hg.low
  clear P0 P1 HB hg hq
  have a2 := S0.out.c2
  have a3 := S0.out.c3
  have a4 := S0.out.c4
  have b2 := S1.out.c2
  have b3 := S1.out.c3
  have b4 := S1.out.c4
  go_wp2_with fail
  refine (j2 _ (RA.out.kept B1.out) (RB.out.kept B1.out)).mono ?_
  rintro e w2 ⟨rfl, hb2⟩
  have T0 : Hid (ObB w2 w.heap.size o (.slice a o.l.length ca) (.slice c o.r.l.length cc)) := S0.out.next hb2
  have T1 : Hid (ObB w2 (w.heap.size + 1) o (.slice b o.l.length cb) (.slice d o.r.l.length cd)) := S1.out.next hb2
  have B2 : Hid (Below w.heap.size w w2) := past6 B1.out hb2
  clear hb2 B1 S0 S1 a2 a3 a4 b2 b3 b4 RA RB j2
  have a5 := T0.out.c5
  have a6 := T0.out.c6
  have a7 := T0.out.c7
  have b5 := T1.out.c5
  have b6 := T1.out.c6
  have b7 := T1.out.c7
  clear T0 T1
  go_wp2
  go_ret
  exact ⟨rfl, B2.out⟩
end Go.Proofs.YtemmgfnepdgpbaaGreatDoor
namespace Go.Proofs.YtemmgfnepdgpbaaGreatDoor
open Go.RowKit Go.Sort
set_option linter.unusedVariables false

def obL (o : Ob) (v u : Value) : List Value := [.string o.k, v, .int .i64 o.r.s, u, .string o.r.b, .int .i64 o.asked, .int .i64 o.got, .int .i64 o.ep]
theorem ObB.puts {w : World} {b : Nat} {o : Ob} {v u : Value} (h : ObB w b o v u) (o' : Ob) (v' u' : Value) : ObB (putL w b (obL o' v' u') 0) b o' v' u' := by
  have k := fun i => (putL_cells (w0 := w) b (obL o' v' u') 0 w (fun j _ h2 => by
    have h3 : j < 8 := by simpa [obL] using h2
    rcases (show j = 0 ∨ j = 1 ∨ j = 2 ∨ j = 3 ∨ j = 4 ∨ j = 5 ∨ j = 6 ∨ j = 7 by omega) with rfl | rfl | rfl | rfl | rfl | rfl | rfl | rfl
    · exact ⟨_, h.c0⟩
    · exact ⟨_, h.c1⟩
    · exact ⟨_, h.c2⟩
    · exact ⟨_, h.c3⟩
    · exact ⟨_, h.c4⟩
    · exact ⟨_, h.c5⟩
    · exact ⟨_, h.c6⟩
    · exact ⟨_, h.c7⟩) i).1
  exact ⟨k 0 _ ⟨rfl, by omega⟩, k 1 _ ⟨rfl, by omega⟩, k 2 _ ⟨rfl, by omega⟩, k 3 _ ⟨rfl, by omega⟩, k 4 _ ⟨rfl, by omega⟩, k 5 _ ⟨rfl, by omega⟩, k 6 _ ⟨rfl, by omega⟩, k 7 _ ⟨rfl, by omega⟩, fun j => by rw [putL_frozen]; exact h.fz j, by rw [putL_size]; exact h.hi⟩
theorem ObB.same {w w' : World} {b : Nat} {o : Ob} {v u : Value} (h : ObB w b o v u) (e : w'.heap[b]? = w.heap[b]?) (hs : w.heap.size ≤ w'.heap.size) : ObB w' b o v u := by
  have k : ∀ k, w'.cell? ⟨b, k, none⟩ = w.cell? ⟨b, k, none⟩ := fun k => World.cell?_of_block (a := ⟨b, k, none⟩) e
  exact ⟨(k 0).trans h.c0, (k 1).trans h.c1, (k 2).trans h.c2, (k 3).trans h.c3, (k 4).trans h.c4, (k 5).trans h.c5, (k 6).trans h.c6, (k 7).trans h.c7, fun j => (World.frozen?_of_block (a := ⟨b, j, none⟩) e).trans (h.fz j), Nat.lt_of_lt_of_le h.hi hs⟩
theorem RsB.same {w w' : World} {b : Nat} {r : Rs} {v : Value} (h : RsB w b r v) (e : w'.heap[b]? = w.heap[b]?) (hs : w.heap.size ≤ w'.heap.size) : RsB w' b r v := by
  have k : ∀ k, w'.cell? ⟨b, k, none⟩ = w.cell? ⟨b, k, none⟩ := fun k => World.cell?_of_block (a := ⟨b, k, none⟩) e
  exact ⟨(k 0).trans h.c0, (k 1).trans h.c1, (k 2).trans h.c2, fun j => (World.frozen?_of_block (a := ⟨b, j, none⟩) e).trans (h.fz j), Nat.lt_of_lt_of_le h.hi hs⟩
end Go.Proofs.YtemmgfnepdgpbaaGreatDoor
