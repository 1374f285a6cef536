/-
  What a call of the program's ReadResponse has made, and how it leaves: by what was given up with, or by its answer.
-/
import Derived.Test.YteibacmohplblaaGreatDoorMqH
import Derived.Test.YteibacmohplblaaGreatDoorG26
import Derived.Test.YteibacmohplblaaGreatDoorG22
namespace Go.Proofs.YteibacmohplblaaGreatDoor
open Go.RowKit Go.Sort
set_option linter.unusedVariables false

theorem catchS_pan (p : Addr) (x k : Int) (older : List PanicEntry) (w : World) (hc : w.cell? p = some (.int .i64 x)) (hz : w.frozen? p = false) :
    CallsD Tryz.prog 80 #[.pointer (some p)] (.panicking ({ v := .iface 97 (.int .i64 k), recovered := false } :: older)) w fun e u' w' =>
      e = .returned (.tuple #[]) ∧ u' = .panicking ({ v := .iface 97 (.int .i64 k), recovered := true } :: older) ∧ w' = w.setCell p (.int .i64 k) := by
  refine callsD_of_wpS Tryz.func80 rfl fun c₀ cs hu => ?_
  apply wpS_region
  simp [wpOpsS, go_sem, recoverD, hu, Tryz.ntmps80]
  refine (code_is k w).mono ?_
  rintro e w' ⟨rfl, rfl⟩
  simp [go_sem, hc, hz, bodyPostS, results, Tryz.results80]
theorem catchS_idle (p : Addr) (x : Int) (w : World) (hc : w.cell? p = some (.int .i64 x)) (hz : w.frozen? p = false) :
    CallsD Tryz.prog 80 #[.pointer (some p)] .returning w fun e u' w' =>
      e = .returned (.tuple #[]) ∧ u' = .returning ∧ w' = w.setCell p (.int .i64 0) := by
  refine callsD_of_wpS Tryz.func80 rfl fun c₀ cs hu => ?_
  apply wpS_region
  simp [wpOpsS, go_sem, recoverD, hu, Tryz.ntmps80]
  refine (code_nil w).mono ?_
  rintro e w' ⟨rfl, rfl⟩
  cases c₀
  simp_all [go_sem, bodyPostS, results, Tryz.results80]

theorem RsB.past {w w' : World} {b : Nat} {r : Rs} {v : Value} {x : Option Nat} (h : RsB w b r v) (hg : w.grownBy w' x) (hne : some b ≠ x) : RsB w' b r v := by
  have e : w'.heap[b]? = w.heap[b]? := hg.block b h.hi hne
  have k : ∀ k, w'.cell? ⟨b, k, none⟩ = w.cell? ⟨b, k, none⟩ := fun k => World.cell?_of_block (a := ⟨b, k, none⟩) e
  exact ⟨(k 0).trans h.c0, (k 1).trans h.c1, (k 2).trans h.c2, fun j => (World.frozen?_of_block (a := ⟨b, j, none⟩) e).trans (h.fz j), Nat.lt_of_lt_of_le h.hi hg.size⟩
/-- What a call of ReadResponse that began at w has made by w1: the zero Response, the code, a reader. -/
structure FrS (w w1 : World) : Prop where
  q : RsB w1 w.heap.size noS (.slice none 0 0)
  c : w1.cell? ⟨w.heap.size + 1, 0, none⟩ = some (.int .i64 0)
  f : w1.frozen? ⟨w.heap.size + 1, 0, none⟩ = false
  b : Below w.heap.size w w1
  hi : w.heap.size + 2 < w1.heap.size
theorem FrS.new (w : World) (t : ByteArray) : FrS w (((w.alloc (.cells #[.int .i64 0, .slice none 0 0, .string ⟨#[]⟩] 39)).alloc (.cells #[.int .i64 0] 2)).alloc (.cells #[.string t, .int .i64 0] 63)) where
  q := ((RsB.new w noS (.slice none 0 0) 39).alloc _).alloc _
  c := by
    have e : (w.alloc (.cells #[.int .i64 0, .slice none 0 0, .string ⟨#[]⟩] 39)).heap.size = w.heap.size + 1 := by simp
    have al := (Below.refl _ ((w.alloc (.cells #[.int .i64 0, .slice none 0 0, .string ⟨#[]⟩] 39)).alloc (.cells #[.int .i64 0] 2))).alloc (Nat.le_refl _) (.cells #[.string t, .int .i64 0] 63)
    rw [← e]
    exact (al.cell (p := ⟨(w.alloc (.cells #[.int .i64 0, .slice none 0 0, .string ⟨#[]⟩] 39)).heap.size, 0, none⟩) (by simp)).trans (World.cell?_alloc_mark _ _ _ _ _)
  f := by
    have e : (w.alloc (.cells #[.int .i64 0, .slice none 0 0, .string ⟨#[]⟩] 39)).heap.size = w.heap.size + 1 := by simp
    have al := (Below.refl _ ((w.alloc (.cells #[.int .i64 0, .slice none 0 0, .string ⟨#[]⟩] 39)).alloc (.cells #[.int .i64 0] 2))).alloc (Nat.le_refl _) (.cells #[.string t, .int .i64 0] 63)
    rw [← e, World.frozen?_of_block (a := ⟨(w.alloc (.cells #[.int .i64 0, .slice none 0 0, .string ⟨#[]⟩] 39)).heap.size, 0, none⟩) (al.block _ (by simp)), World.frozen?_alloc_mark]
    simp
  b := by
    have a1 := (Below.refl _ w).alloc (Nat.le_refl _) (.cells #[.int .i64 0, .slice none 0 0, .string ⟨#[]⟩] 39)
    have a2 := a1.alloc a1.size (.cells #[.int .i64 0] 2)
    exact a2.alloc a2.size _
  hi := by simp
theorem FrS.next {w w1 w2 : World} (h : FrS w w1) (hg : w1.grownBy w2 (some (w.heap.size + 2))) : FrS w w2 where
  q := h.q.past hg (by simp)
  c := grown_cell hg h.c (by have := h.hi; omega) (by intro k hk; cases hk; omega)
  f := by
    rw [World.frozen?_of_block (a := ⟨w.heap.size + 1, 0, none⟩) (hg.block _ (by show w.heap.size + 1 < _; have := h.hi; omega) (by simp))]
    exact h.f
  b := h.b.grown hg h.b.size (by intro k hk; cases hk; omega)
  hi := Nat.lt_of_lt_of_le h.hi hg.size

theorem leaveS {w w2 : World} {k : Int} {P : Int × Rs × Int} {tmps : Array Value} (F : FrS w w2) (hP : P = (k, noS, 0)) (h2 : tmps.getD 2 undef = .pointer (some ⟨w.heap.size, 0, none⟩)) (h3 : tmps.getD 3 undef = .int .i64 0) (h4 : tmps.getD 4 undef = .pointer (some ⟨w.heap.size + 1, 0, none⟩)) :
    bodyPostD Tryz.prog Tryz.f26 (fun e w' => GivesS w w' e P) (.panic (panL k)) { tmps := tmps, defers := [{ target := .fn (.func 80) #[.pointer (some ⟨w.heap.size + 1, 0, none⟩)], args := #[] }] } w2 := by
  refine leaves_cons (f := 80) (args := #[.pointer (some ⟨w.heap.size + 1, 0, none⟩)]) (by simp) (by simp [go_sem]) ?_
  refine (catchS_pan ⟨w.heap.size + 1, 0, none⟩ 0 k [] w2 F.c F.f).mono ?_
  rintro e u' w'' ⟨rfl, rfl, rfl⟩
  have hg : w2.grownBy (w2.setCell ⟨w.heap.size + 1, 0, none⟩ (.int .i64 k)) (some (w.heap.size + 1)) := grown_put (grown_self w2 _) _ _
  have hq := F.q.past hg (by simp)
  have hc : (w2.setCell ⟨w.heap.size + 1, 0, none⟩ (.int .i64 k)).cell? ⟨w.heap.size + 1, 0, none⟩ = some (.int .i64 k) := World.cell?_setCell_same _ _ _ F.c
  have hb : Below w.heap.size w (w2.setCell ⟨w.heap.size + 1, 0, none⟩ (.int .i64 k)) := F.b.setCell (by show w.heap.size ≤ w.heap.size + 1; omega) _
  generalize w2.setCell ⟨w.heap.size + 1, 0, none⟩ (.int .i64 k) = w3 at hq hc hb ⊢
  have c0 := hq.c0
  have c1 := hq.c1
  have c2 := hq.c2
  refine ⟨.tuple #[.agg #[.int .i64 0, .slice none 0 0, .string ⟨#[]⟩], .int .i64 0, .int .i64 k], ?_, givesS_no hP hb⟩
  unfold noS at c0 c1 c2
  simp only at c0 c1 c2
  simp only [Array.getD_eq_getD_getElem?] at h2 h3 h4
  simp [results, Tryz.results26, go_sem, h2, h3, h4, hc, c0, c1, c2]

theorem RsB.put {w : World} {b : Nat} {r0 r : Rs} {v0 v : Value} (h : RsB w b r0 v0) : RsB (((w.setCell ⟨b, 0, none⟩ (.int .i64 r.s)).setCell ⟨b, 1, none⟩ v).setCell ⟨b, 2, none⟩ (.string r.b)) b r v where
  c0 := by rw [World.cell?_setCell_other _ _ _ _ (by simp), World.cell?_setCell_other _ _ _ _ (by simp)]; exact World.cell?_setCell_same _ _ _ h.c0
  c1 := by rw [World.cell?_setCell_other _ _ _ _ (by simp)]; exact World.cell?_setCell_same _ _ _ (by rw [World.cell?_setCell_other _ _ _ _ (by simp)]; exact h.c1)
  c2 := World.cell?_setCell_same _ _ _ (by rw [World.cell?_setCell_other _ _ _ _ (by simp), World.cell?_setCell_other _ _ _ _ (by simp)]; exact h.c2)
  fz := fun k => by rw [World.frozen?_setCell, World.frozen?_setCell, World.frozen?_setCell]; exact h.fz k
  hi := by rw [World.size_setCell, World.size_setCell, World.size_setCell]; exact h.hi
/-- The world behind the last region of ReadRequest. -/
def lastS (n : Nat) (r : Rs) (u : Value) (w : World) : World := (((w.setCell ⟨n, 0, none⟩ (.int .i64 r.s)).setCell ⟨n, 1, none⟩ u).setCell ⟨n, 2, none⟩ (.string r.b)).setCell ⟨n + 1, 0, none⟩ (.int .i64 0)
theorem doneS {w w5 : World} {r : Rs} {u : Value} {N : Int} {P : Int × Rs × Int} {tmps : Array Value} (F : FrS w w5) (hF : HasF w5 (w.heap.size + 2) u r.l) (hP : P = (0, r, N)) (h2 : tmps.getD 2 undef = .pointer (some ⟨w.heap.size, 0, none⟩)) (h3 : tmps.getD 3 undef = .int .i64 N) (h4 : tmps.getD 4 undef = .pointer (some ⟨w.heap.size + 1, 0, none⟩)) :
    bodyPostD Tryz.prog Tryz.f26 (fun e w' => GivesS w w' e P) .ret { tmps := tmps, defers := [{ target := .fn (.func 80) #[.pointer (some ⟨w.heap.size + 1, 0, none⟩)], args := #[] }] } (lastS w.heap.size r u w5) := by
  have q4 := RsB.put (r := r) (v := u) F.q
  have B4 : Below w.heap.size w (((w5.setCell ⟨w.heap.size, 0, none⟩ (.int .i64 r.s)).setCell ⟨w.heap.size, 1, none⟩ u).setCell ⟨w.heap.size, 2, none⟩ (.string r.b)) := ((F.b.setCell (Nat.le_refl _) _).setCell (Nat.le_refl _) _).setCell (Nat.le_refl _) _
  have C4 : (((w5.setCell ⟨w.heap.size, 0, none⟩ (.int .i64 r.s)).setCell ⟨w.heap.size, 1, none⟩ u).setCell ⟨w.heap.size, 2, none⟩ (.string r.b)).cell? ⟨w.heap.size + 1, 0, none⟩ = some (.int .i64 0) := by
    rw [World.cell?_setCell_other _ _ _ _ (by simp), World.cell?_setCell_other _ _ _ _ (by simp), World.cell?_setCell_other _ _ _ _ (by simp)]
    exact F.c
  have Z4 : (((w5.setCell ⟨w.heap.size, 0, none⟩ (.int .i64 r.s)).setCell ⟨w.heap.size, 1, none⟩ u).setCell ⟨w.heap.size, 2, none⟩ (.string r.b)).frozen? ⟨w.heap.size + 1, 0, none⟩ = false := by
    rw [World.frozen?_setCell, World.frozen?_setCell, World.frozen?_setCell]
    exact F.f
  have H4 : HasF (((w5.setCell ⟨w.heap.size, 0, none⟩ (.int .i64 r.s)).setCell ⟨w.heap.size, 1, none⟩ u).setCell ⟨w.heap.size, 2, none⟩ (.string r.b)) (w.heap.size + 2) u r.l := ((hF.far (by omega) _).far (by omega) _).far (by omega) _
  unfold lastS
  generalize ((w5.setCell ⟨w.heap.size, 0, none⟩ (.int .i64 r.s)).setCell ⟨w.heap.size, 1, none⟩ u).setCell ⟨w.heap.size, 2, none⟩ (.string r.b) = w6 at q4 B4 C4 Z4 H4 ⊢
  have c6 : (w6.setCell ⟨w.heap.size + 1, 0, none⟩ (.int .i64 0)).cell? ⟨w.heap.size + 1, 0, none⟩ = some (.int .i64 0) := World.cell?_setCell_same _ _ _ C4
  have z6 : (w6.setCell ⟨w.heap.size + 1, 0, none⟩ (.int .i64 0)).frozen? ⟨w.heap.size + 1, 0, none⟩ = false := by rw [World.frozen?_setCell]; exact Z4
  have q6 := q4.past (grown_put (grown_self w6 (some (w.heap.size + 1))) 0 (.int .i64 0)) (by simp)
  have b6 := B4.setCell (p := ⟨w.heap.size + 1, 0, none⟩) (by show w.heap.size ≤ w.heap.size + 1; omega) (.int .i64 0)
  have h6 := H4.far (b := w.heap.size + 1) (k := 0) (by omega) (.int .i64 0)
  clear q4 B4 C4 Z4 H4
  generalize w6.setCell ⟨w.heap.size + 1, 0, none⟩ (.int .i64 0) = w7 at c6 z6 q6 b6 h6 ⊢
  refine leaves_cons (f := 80) (args := #[.pointer (some ⟨w.heap.size + 1, 0, none⟩)]) (by simp) (by simp [go_sem]) ?_
  refine (catchS_idle ⟨w.heap.size + 1, 0, none⟩ 0 w7 c6 z6).mono ?_
  rintro e u' w'' ⟨rfl, rfl, rfl⟩
  have hq := q6.past (grown_put (grown_self w7 (some (w.heap.size + 1))) 0 (.int .i64 0)) (by simp)
  have hc : (w7.setCell ⟨w.heap.size + 1, 0, none⟩ (.int .i64 0)).cell? ⟨w.heap.size + 1, 0, none⟩ = some (.int .i64 0) := World.cell?_setCell_same _ _ _ c6
  have hb := b6.setCell (p := ⟨w.heap.size + 1, 0, none⟩) (by show w.heap.size ≤ w.heap.size + 1; omega) (.int .i64 0)
  have hh := h6.far (b := w.heap.size + 1) (k := 0) (by omega) (.int .i64 0)
  clear c6 z6 q6 b6 h6
  generalize w7.setCell ⟨w.heap.size + 1, 0, none⟩ (.int .i64 0) = w8 at hq hc hb hh ⊢
  have c0 := hq.c0
  have c1 := hq.c1
  have c2 := hq.c2
  subst hP
  refine ⟨.tuple #[.agg #[.int .i64 r.s, u, .string r.b], .int .i64 N, .int .i64 0], ?_, ⟨u, rfl, hh.low (by omega), hb⟩⟩
  simp only [Array.getD_eq_getD_getElem?] at h2 h3 h4
  simp [results, Tryz.results26, go_sem, h2, h3, h4, hc, c0, c1, c2]

end Go.Proofs.YteibacmohplblaaGreatDoor
