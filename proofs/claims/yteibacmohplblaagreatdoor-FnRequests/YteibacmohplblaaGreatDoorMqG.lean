/-
  The program's ReadRequest by its contract: what was given up with is told.
-/
import Derived.Test.YteibacmohplblaaGreatDoorMqF
import Derived.Defers
import Derived.Recover
namespace Go.Proofs.YteibacmohplblaaGreatDoor
open Go.RowKit Go.Sort
set_option linter.unusedVariables false

theorem assert_nil (w : World) : (Instr.typeAssert .nilIface 20 97 true).run Tryz.prog w = .ok (.tuple #[.int .i64 0, .bool false]) w := by kernel_rfl
theorem assert_is (v : Value) (w : World) : (Instr.typeAssert (.iface 97 v) 20 97 true).run Tryz.prog w = .ok (.tuple #[v, .bool true]) w := by kernel_rfl
theorem code_nil (w : World) : Calls Tryz.prog 46 #[.nilIface] w fun e w' => e = .returned (.int .i64 0) ∧ w' = w := by
  have ha := assert_nil
  go_enter Tryz.func46, Tryz.ntmps46
  go_wp2
  go_ret
  exact ⟨rfl, rfl⟩
theorem code_is (k : Int) (w : World) : Calls Tryz.prog 46 #[.iface 97 (.int .i64 k)] w fun e w' => e = .returned (.int .i64 k) ∧ w' = w := by
  have ha := assert_is
  go_enter Tryz.func46, Tryz.ntmps46
  go_wp2
  go_ret
  exact ⟨rfl, rfl⟩
theorem catchQ_pan (p : Addr) (x k : Int) (older : List PanicEntry) (w : World) (hc : w.cell? p = some (.int .i64 x)) (hz : w.frozen? p = false) :
    CallsD Tryz.prog 45 #[.pointer (some p)] (.panicking ({ v := .iface 97 (.int .i64 k), recovered := false } :: older)) w fun e u' w' =>
      e = .returned (.tuple #[]) ∧ u' = .panicking ({ v := .iface 97 (.int .i64 k), recovered := true } :: older) ∧ w' = w.setCell p (.int .i64 k) := by
  refine callsD_of_wpS Tryz.func45 rfl fun c₀ cs hu => ?_
  apply wpS_region
  simp [wpOpsS, go_sem, recoverD, hu, Tryz.ntmps45]
  refine (code_is k w).mono ?_
  rintro e w' ⟨rfl, rfl⟩
  simp [go_sem, hc, hz, bodyPostS, results, Tryz.results45]
theorem catchQ_idle (p : Addr) (x : Int) (w : World) (hc : w.cell? p = some (.int .i64 x)) (hz : w.frozen? p = false) :
    CallsD Tryz.prog 45 #[.pointer (some p)] .returning w fun e u' w' =>
      e = .returned (.tuple #[]) ∧ u' = .returning ∧ w' = w.setCell p (.int .i64 0) := by
  refine callsD_of_wpS Tryz.func45 rfl fun c₀ cs hu => ?_
  apply wpS_region
  simp [wpOpsS, go_sem, recoverD, hu, Tryz.ntmps45]
  refine (code_nil w).mono ?_
  rintro e w' ⟨rfl, rfl⟩
  cases c₀
  simp_all [go_sem, bodyPostS, results, Tryz.results45]

theorem RqB.past {w w' : World} {b : Nat} {r : Rq} {v : Value} {x : Option Nat} (h : RqB w b r v) (hg : w.grownBy w' x) (hne : some b ≠ x) : RqB w' b r v := by
  have e : w'.heap[b]? = w.heap[b]? := hg.block b h.hi hne
  have k : ∀ k, w'.cell? ⟨b, k, none⟩ = w.cell? ⟨b, k, none⟩ := fun k => World.cell?_of_block (a := ⟨b, k, none⟩) e
  exact ⟨(k 0).trans h.c0, (k 1).trans h.c1, (k 2).trans h.c2, (k 3).trans h.c3, fun j => (World.frozen?_of_block (a := ⟨b, j, none⟩) e).trans (h.fz j), Nat.lt_of_lt_of_le h.hi hg.size⟩
/-- What a call of ReadRequest that began at w has made by w1: the zero Request, the code, a reader. -/
structure FrQ (w w1 : World) : Prop where
  q : RqB w1 w.heap.size noQ (.slice none 0 0)
  c : w1.cell? ⟨w.heap.size + 1, 0, none⟩ = some (.int .i64 0)
  f : w1.frozen? ⟨w.heap.size + 1, 0, none⟩ = false
  b : Below w.heap.size w w1
  hi : w.heap.size + 2 < w1.heap.size
theorem FrQ.new (w : World) (t : ByteArray) : FrQ w (((w.alloc (.cells #[.string ⟨#[]⟩, .string ⟨#[]⟩, .slice none 0 0, .string ⟨#[]⟩] 26)).alloc (.cells #[.int .i64 0] 2)).alloc (.cells #[.string t, .int .i64 0] 63)) where
  q := ((RqB.new w noQ (.slice none 0 0) 26).alloc _).alloc _
  c := by
    have e : (w.alloc (.cells #[.string ⟨#[]⟩, .string ⟨#[]⟩, .slice none 0 0, .string ⟨#[]⟩] 26)).heap.size = w.heap.size + 1 := by simp
    have al := (Below.refl _ ((w.alloc (.cells #[.string ⟨#[]⟩, .string ⟨#[]⟩, .slice none 0 0, .string ⟨#[]⟩] 26)).alloc (.cells #[.int .i64 0] 2))).alloc (Nat.le_refl _) (.cells #[.string t, .int .i64 0] 63)
    rw [← e]
    exact (al.cell (p := ⟨(w.alloc (.cells #[.string ⟨#[]⟩, .string ⟨#[]⟩, .slice none 0 0, .string ⟨#[]⟩] 26)).heap.size, 0, none⟩) (by simp)).trans (World.cell?_alloc_mark _ _ _ _ _)
  f := by
    have e : (w.alloc (.cells #[.string ⟨#[]⟩, .string ⟨#[]⟩, .slice none 0 0, .string ⟨#[]⟩] 26)).heap.size = w.heap.size + 1 := by simp
    have al := (Below.refl _ ((w.alloc (.cells #[.string ⟨#[]⟩, .string ⟨#[]⟩, .slice none 0 0, .string ⟨#[]⟩] 26)).alloc (.cells #[.int .i64 0] 2))).alloc (Nat.le_refl _) (.cells #[.string t, .int .i64 0] 63)
    rw [← e, World.frozen?_of_block (a := ⟨(w.alloc (.cells #[.string ⟨#[]⟩, .string ⟨#[]⟩, .slice none 0 0, .string ⟨#[]⟩] 26)).heap.size, 0, none⟩) (al.block _ (by simp)), World.frozen?_alloc_mark]
    simp
  b := by
    have a1 := (Below.refl _ w).alloc (Nat.le_refl _) (.cells #[.string ⟨#[]⟩, .string ⟨#[]⟩, .slice none 0 0, .string ⟨#[]⟩] 26)
    have a2 := a1.alloc a1.size (.cells #[.int .i64 0] 2)
    exact a2.alloc a2.size _
  hi := by simp
theorem FrQ.next {w w1 w2 : World} (h : FrQ w w1) (hg : w1.grownBy w2 (some (w.heap.size + 2))) : FrQ w w2 where
  q := h.q.past hg (by simp)
  c := grown_cell hg h.c (by have := h.hi; omega) (by intro k hk; cases hk; omega)
  f := by
    rw [World.frozen?_of_block (a := ⟨w.heap.size + 1, 0, none⟩) (hg.block _ (by show w.heap.size + 1 < _; have := h.hi; omega) (by simp))]
    exact h.f
  b := h.b.grown hg h.b.size (by intro k hk; cases hk; omega)
  hi := Nat.lt_of_lt_of_le h.hi hg.size

theorem leaveQ {w w2 : World} {k : Int} {P : Int × Rq × Int} {tmps : Array Value} (F : FrQ w w2) (hP : P = (k, noQ, 0)) (h2 : tmps.getD 2 undef = .pointer (some ⟨w.heap.size, 0, none⟩)) (h3 : tmps.getD 3 undef = .int .i64 0) (h4 : tmps.getD 4 undef = .pointer (some ⟨w.heap.size + 1, 0, none⟩)) :
    bodyPostD Tryz.prog Tryz.f13 (fun e w' => GivesQ w w' e P) (.panic (panL k)) { tmps := tmps, defers := [{ target := .fn (.func 45) #[.pointer (some ⟨w.heap.size + 1, 0, none⟩)], args := #[] }] } w2 := by
  refine leaves_cons (f := 45) (args := #[.pointer (some ⟨w.heap.size + 1, 0, none⟩)]) (by simp) (by simp [go_sem]) ?_
  refine (catchQ_pan ⟨w.heap.size + 1, 0, none⟩ 0 k [] w2 F.c F.f).mono ?_
  rintro e u' w'' ⟨rfl, rfl, rfl⟩
  have hg : w2.grownBy (w2.setCell ⟨w.heap.size + 1, 0, none⟩ (.int .i64 k)) (some (w.heap.size + 1)) := grown_put (grown_self w2 _) _ _
  have hq := F.q.past hg (by simp)
  have hc : (w2.setCell ⟨w.heap.size + 1, 0, none⟩ (.int .i64 k)).cell? ⟨w.heap.size + 1, 0, none⟩ = some (.int .i64 k) := World.cell?_setCell_same _ _ _ F.c
  have hb : Below w.heap.size w (w2.setCell ⟨w.heap.size + 1, 0, none⟩ (.int .i64 k)) := F.b.setCell (by show w.heap.size ≤ w.heap.size + 1; omega) _
  generalize w2.setCell ⟨w.heap.size + 1, 0, none⟩ (.int .i64 k) = w3 at hq hc hb ⊢
  have c0 := hq.c0
  have c1 := hq.c1
  have c2 := hq.c2
  have c3 := hq.c3
  refine ⟨.tuple #[.agg #[.string ⟨#[]⟩, .string ⟨#[]⟩, .slice none 0 0, .string ⟨#[]⟩], .int .i64 0, .int .i64 k], ?_, givesQ_no hP hb⟩
  unfold noQ at c0 c1 c2 c3
  simp only at c0 c1 c2 c3
  simp only [Array.getD_eq_getD_getElem?] at h2 h3 h4
  simp [results, Tryz.results13, go_sem, h2, h3, h4, hc, c0, c1, c2, c3]

set_option maxHeartbeats 2000000 in
theorem implRdRq_line (t : ByteArray) (m : Int) (w : World) (hm : w.cell? ⟨1, 0, none⟩ = some (.int .i64 m)) (ht : t.size ≤ 1048576) (hbad : ∀ x r m g v, lnC t.data.toList = some (x, r) → wrdL x = [m, g, v] → ¬ goodQ m g v) :
    Calls Tryz.prog 13 #[.string t] w fun e w' => GivesQ w w' e (rdRq t.data.toList) := by
  have hmf : ∀ (fn : Fn) (first cap : Array Value) (w : World), (Instr.makeFunc fn first cap).run Tryz.prog w = .ok (.func fn first cap) w := fun _ _ _ _ => rfl
  have F0 : Hid (FrQ w _) := FrQ.new w t
  have R0 := Rdr.new ((w.alloc (.cells #[.string ⟨#[]⟩, .string ⟨#[]⟩, .slice none 0 0, .string ⟨#[]⟩] 26)).alloc (.cells #[.int .i64 0] 2)) t
  have e0 : ((w.alloc (.cells #[.string ⟨#[]⟩, .string ⟨#[]⟩, .slice none 0 0, .string ⟨#[]⟩] 26)).alloc (.cells #[.int .i64 0] 2)).heap.size = w.heap.size + 2 := by simp
  rw [e0] at R0
  have m0 := (F0.out.b.cell (p := ⟨1, 0, none⟩) (cell_lt hm)).trans hm
  have hl := implRqLine_no _ t m _ R0 ht m0 hbad
  have HP : Hid (rdRq t.data.toList = (1, noQ, 0)) := badQ hbad
  clear R0 e0 m0
  go_enter_defers Tryz.func13, Tryz.ntmps13
  go_wp2_with (go_at_call 47; refine (implNewR t _).mono ?_; rintro e w1 ⟨rfl, rfl⟩)
  generalize ((w.alloc (.cells #[.string ⟨#[]⟩, .string ⟨#[]⟩, .slice none 0 0, .string ⟨#[]⟩] 26)).alloc (.cells #[.int .i64 0] 2)).alloc (.cells #[.string t, .int .i64 0] 63) = wb at F0 hl ⊢
  refine hl.mono ?_
  rintro e w2 ⟨rfl, hg2⟩
  have F2 : Hid (FrQ w w2) := F0.out.next hg2
  clear F0 hl hg2
  exact leaveQ F2.out HP.out rfl rfl rfl
end Go.Proofs.YteibacmohplblaaGreatDoor
