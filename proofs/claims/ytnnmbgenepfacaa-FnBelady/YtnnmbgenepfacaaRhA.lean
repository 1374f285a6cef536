/-
  The program's heap of what comes again: its methods.
-/
import Derived.Test.YtnnmbgenepfacaaRpA
import Derived.Test.YtnnmbgenepfacaaRhP
import Derived.Deep.RegionWith
import Derived.Handy
namespace Go.Proofs.Ytnnmbgenepfacaa
open Go.RowKit Go.Sort Rom
set_option linter.unusedVariables false
set_option linter.unusedSimpArgs false

def coE : Enc Co where
  k := 2
  pos := by decide
  c := fun x => [.int .i64 x.1, .int .i64 x.2]
  len := fun _ => rfl
  one := fun x u hu => by simp at hu; rcases hu with rfl | rfl <;> rfl
theorem Try.infoCO : (Try.prog.info? 74).map (fun i => (i.zero, i.size, i.bytes)) = some (some (.agg #[.int .i64 0, .int .i64 0]), 2, 16) := by kernel_rfl
def coV (x : Co) : Value := .agg #[.int .i64 x.1, .int .i64 x.2]
abbrev OwnsC8 := OwnsE coE 74
theorem ownsC_at {w : World} {B g n cap : Nat} {l : List Co} (h : OwnsC8 w B (.slice (some ⟨g, 0, Option.none⟩) n cap) l) (j : Nat) (hj : j < l.length) : w.cell? ⟨g, j * 2, Option.none⟩ = some (.int .i64 l[j].1) ∧ w.cell? ⟨g, j * 2 + 1, Option.none⟩ = some (.int .i64 l[j].2) :=
  ⟨h.at (i := 0) hj rfl, h.at (i := 1) hj rfl⟩
/-- A heap behind a pointer: the slice in block b, its row in another one. -/
structure HpB (w : World) (B b : Nat) (l : List Co) (v : Value) : Prop where
  c : w.cell? ⟨b, 0, Option.none⟩ = some v
  f : w.frozen? ⟨b, 0, Option.none⟩ = false
  lo : B ≤ b
  hi : b < w.heap.size
  o : OwnsC8 w B v l
  ne : ∀ k, v.ownBlock = some k → k ≠ b
theorem HpB.grown {w w' : World} {B b : Nat} {l l' : List Co} {v : Value} {g : Nat} (h : HpB w B b l v) (hg : w.grownBy w' (some g)) (hgb : g ≠ b) (ho : OwnsC8 w' B v l') : HpB w' B b l' v := by
  have e := hg.block b h.hi (fun e => hgb (by injection e with e; exact e.symm))
  refine ⟨?_, ?_, h.lo, Nat.lt_of_lt_of_le h.hi hg.size, ho, h.ne⟩
  · rw [← h.c]; simp only [World.cell?]; rw [e]
  · rw [← h.f]; simp only [World.frozen?]; rw [e]
theorem HpB.kept {w w' : World} {B b : Nat} {l : List Co} {v : Value} (h : HpB w B b l v) (hb : Below w.heap.size w w') : HpB w' B b l v := by
  have e := hb.block b h.hi
  refine ⟨?_, ?_, h.lo, Nat.lt_of_lt_of_le h.hi hb.size, h.o.kept hb, h.ne⟩
  · rw [← h.c]; simp only [World.cell?]; rw [e]
  · rw [← h.f]; simp only [World.frozen?]; rw [e]
theorem mthLenM (b : Nat) (w : World) : (method 239 70 (.pointer (some ⟨b, 0, none⟩)) "Len").run Try.prog w = (do let v ← loadVar 72 ⟨b, 0, none⟩; pure (63, v) : Sem (FuncId × Value)).run Try.prog w := by kernel_rfl
theorem mthLessM (b : Nat) (w : World) : (method 239 70 (.pointer (some ⟨b, 0, none⟩)) "Less").run Try.prog w = (do let v ← loadVar 72 ⟨b, 0, none⟩; pure (117, v) : Sem (FuncId × Value)).run Try.prog w := by kernel_rfl
theorem mthSwapM (b : Nat) (w : World) : (method 239 70 (.pointer (some ⟨b, 0, none⟩)) "Swap").run Try.prog w = (do let v ← loadVar 72 ⟨b, 0, none⟩; pure (120, v) : Sem (FuncId × Value)).run Try.prog w := by kernel_rfl
theorem mthPush (b : Nat) (w : World) : (method 239 70 (.pointer (some ⟨b, 0, none⟩)) "Push").run Try.prog w = .ok (119, .pointer (some ⟨b, 0, none⟩)) w := by kernel_rfl
theorem mthPop (b : Nat) (w : World) : (method 239 70 (.pointer (some ⟨b, 0, none⟩)) "Pop").run Try.prog w = .ok (118, .pointer (some ⟨b, 0, none⟩)) w := by kernel_rfl
theorem mthLen {b : Nat} {w : World} {v : Value} (h : w.cell? ⟨b, 0, none⟩ = some v) : (method 239 70 (.pointer (some ⟨b, 0, none⟩)) "Len").run Try.prog w = .ok (63, v) w := by
  rw [mthLenM]
  simp [loadVar, go_sem, h]
theorem mthLess {b : Nat} {w : World} {v : Value} (h : w.cell? ⟨b, 0, none⟩ = some v) : (method 239 70 (.pointer (some ⟨b, 0, none⟩)) "Less").run Try.prog w = .ok (117, v) w := by
  rw [mthLessM]
  simp [loadVar, go_sem, h]
theorem mthSwap {b : Nat} {w : World} {v : Value} (h : w.cell? ⟨b, 0, none⟩ = some v) : (method 239 70 (.pointer (some ⟨b, 0, none⟩)) "Swap").run Try.prog w = .ok (120, v) w := by
  rw [mthSwapM]
  simp [loadVar, go_sem, h]
theorem implLen (a : Option Addr) (n cap : Nat) (w : World) : Calls Try.prog 63 #[.slice a n cap] w fun e w' => e = .returned (.int .i64 (n : Int)) ∧ w = w' := by
  go_enter Try.func63, Try.ntmps63
  go_wp2
  go_ret
  exact ⟨rfl, rfl⟩
theorem implLess (g cap i j : Nat) (l : List Co) (B : Nat) (w : World) (h : OwnsC8 w B (.slice (some ⟨g, 0, none⟩) l.length cap) l) (hl : l.length ≤ 100) (hi : i < l.length) (hj : j < l.length) :
    Calls Try.prog 117 #[.slice (some ⟨g, 0, none⟩) l.length cap, .int .i64 (i : Int), .int .i64 (j : Int)] w fun e w' => e = .returned (.bool (lessC l[i] l[j])) ∧ ∃ n, w' = w.drewN n := by
  obtain ⟨a1, a2⟩ := ownsC_at h i hi
  obtain ⟨b1, b2⟩ := ownsC_at h j hj
  have HL : Hid ((l[i].2 = l[j].2 → decide (l[i].1 < l[j].1) = lessC l[i] l[j]) ∧ (l[i].2 ≠ l[j].2 → decide (l[j].2 < l[i].2) = lessC l[i] l[j])) := by
    show _ ∧ _
    unfold lessC
    exact ⟨fun e => (if_pos e).symm, fun e => (if_neg e).symm⟩
  generalize lessC l[i] l[j] = L at HL ⊢
  generalize l[i] = p at a1 a2 HL
  generalize l[j] = q at b1 b2 HL
  obtain ⟨p1, p2⟩ := p
  obtain ⟨q1, q2⟩ := q
  dsimp only at a1 a2 b1 b2 HL
  have hii : (i : Int) < (l.length : Int) := by omega
  have hji : (j : Int) < (l.length : Int) := by omega
  clear h
  by_cases e : p2 = q2
  · have e1 : (p2 == q2) = true := by simpa using e
    have HE : Hid (decide (p1 < q1) = L) := HL.out.1 e
    clear e HL
    go_enter Try.func117, Try.ntmps117
    go_wp2_with fail
    go_quiet (fail)
    have x1 : (w.drewN nq).cell? ⟨g, i * 2, none⟩ = some (.int .i64 p1) := a1
    have x2 : (w.drewN nq).cell? ⟨g, j * 2, none⟩ = some (.int .i64 q1) := b1
    obtain ⟨w1, hw1⟩ : ∃ w1, w.drewN nq = w1 := ⟨_, rfl⟩
    rw [hw1] at x1 x2 ⊢
    have HW : Hid (w.drewN nq = w1) := hw1
    clear hw1 a1 a2 b1 b2
    go_wp2_with fail
    go_quiet (fail)
    go_wp2
    go_ret
    exact ⟨congrArg (fun z => Ending.returned (.bool z)) HE.out, _, by rw [← HW.out]; exact World.drewN_drewN ..⟩
  · have e1 : (p2 == q2) = false := by simpa using e
    have HE : Hid (decide (q2 < p2) = L) := HL.out.2 e
    clear e HL
    go_enter Try.func117, Try.ntmps117
    go_wp2_with fail
    go_quiet (fail)
    have x1 : (w.drewN nq).cell? ⟨g, i * 2 + 1, none⟩ = some (.int .i64 p2) := a2
    have x2 : (w.drewN nq).cell? ⟨g, j * 2 + 1, none⟩ = some (.int .i64 q2) := b2
    obtain ⟨w1, hw1⟩ : ∃ w1, w.drewN nq = w1 := ⟨_, rfl⟩
    rw [hw1] at x1 x2 ⊢
    have HW : Hid (w.drewN nq = w1) := hw1
    clear hw1 a1 a2 b1 b2
    go_wp2_with fail
    go_quiet (fail)
    go_wp2
    go_ret
    exact ⟨congrArg (fun z => Ending.returned (.bool z)) HE.out, _, by rw [← HW.out]; exact World.drewN_drewN ..⟩
/-- Two elements stored anew. -/
theorem setE2 {w : World} {B g cap i : Nat} {l : List Co} (h : OwnsC8 w B (.slice (some ⟨g, 0, Option.none⟩) l.length cap) l) (hi : i < l.length) (x : Co) :
    OwnsC8 ((w.setCell ⟨g, i * 2, Option.none⟩ (.int .i64 x.1)).setCell ⟨g, i * 2 + 1, Option.none⟩ (.int .i64 x.2)) B (.slice (some ⟨g, 0, Option.none⟩) l.length cap) (l.set i x) := by
  have h1 := h.put rfl hi (i := 0) (by decide) (.int .i64 x.1) (x.1, l[i].2) rfl
  have h2 := h1.put (by rw [List.length_set]) (j := i) (by rw [List.length_set]; exact hi) (i := 1) (by decide) (.int .i64 x.2) x (by
    rw [List.getElem_set_self]
    rfl)
  rw [List.set_set] at h2
  exact h2
theorem swapE {w : World} {B g cap i j : Nat} {l : List Co} (h : OwnsC8 w B (.slice (some ⟨g, 0, Option.none⟩) l.length cap) l) (hi : i < l.length) (hj : j < l.length) :
    OwnsC8 ((((w.setCell ⟨g, i * 2, Option.none⟩ (.int .i64 l[j].1)).setCell ⟨g, i * 2 + 1, Option.none⟩ (.int .i64 l[j].2)).setCell ⟨g, j * 2, Option.none⟩ (.int .i64 l[i].1)).setCell ⟨g, j * 2 + 1, Option.none⟩ (.int .i64 l[i].2)) B (.slice (some ⟨g, 0, Option.none⟩) l.length cap) (swpC l i j) := by
  have h1 := setE2 h hi l[j]
  have e : (l.set i l[j]).length = l.length := List.length_set
  rw [← e] at h1
  have h2 := setE2 h1 (i := j) (by rw [e]; exact hj) l[i]
  rw [e] at h2
  have es : swpC l i j = (l.set i l[j]).set j l[i] := by
    unfold swpC
    simp [List.getD, hi, hj]
  rw [es]
  exact h2
theorem swapG {w : World} {g a b c d : Nat} {x y z u : Value} : w.grownBy ((((w.setCell ⟨g, a, Option.none⟩ x).setCell ⟨g, b, Option.none⟩ y).setCell ⟨g, c, Option.none⟩ z).setCell ⟨g, d, Option.none⟩ u) (some g) :=
  grownE_put (grownE_put (grownE_put (grownE_put (grownE_self w _) _ _) _ _) _ _) _ _
theorem grownE_drew {a w : World} {r : Option Nat} (h : a.grownBy w r) : a.grownBy w.drew r := ⟨h.os, h.tape, h.output, h.size, h.block⟩
set_option maxHeartbeats 2000000 in
theorem implSwap (g cap i j : Nat) (l : List Co) (B : Nat) (w : World) (h : OwnsC8 w B (.slice (some ⟨g, 0, none⟩) l.length cap) l) (hl : l.length ≤ 100) (hi : i < l.length) (hj : j < l.length) :
    Calls Try.prog 120 #[.slice (some ⟨g, 0, none⟩) l.length cap, .int .i64 (i : Int), .int .i64 (j : Int)] w fun e w' => e = .returned (.tuple #[]) ∧ OwnsC8 w' B (.slice (some ⟨g, 0, none⟩) l.length cap) (swpC l i j) ∧ w.grownBy w' (some g) := by
  obtain ⟨a1, a2⟩ := ownsC_at h i hi
  obtain ⟨b1, b2⟩ := ownsC_at h j hj
  have hii : (i : Int) < (l.length : Int) := by omega
  have hji : (j : Int) < (l.length : Int) := by omega
  have f := h.free rfl
  have HS : Hid _ := swapE h hi hj
  by_cases hij : i = j
  · subst hij
    generalize l[i] = p at a1 a2 b1 b2 HS
    obtain ⟨p1, p2⟩ := p
    dsimp only at a1 a2 b1 b2 HS
    clear h b1 b2
    go_enter Try.func120, Try.ntmps120
    go_wp2_with fail
    go_region_with (fail)
    all_goals
      go_wp2
      go_returns
      exact ⟨rfl, HS.out, grownE_drew swapG⟩
  · have n1 : ¬ i * 2 = j * 2 := by omega
    have n2 : ¬ i * 2 + 1 = j * 2 + 1 := by omega
    have n3 : ¬ i * 2 = j * 2 + 1 := by omega
    have n4 : ¬ i * 2 + 1 = j * 2 := by omega
    have m1 : ¬ j * 2 = i * 2 := by omega
    have m2 : ¬ j * 2 + 1 = i * 2 + 1 := by omega
    have m3 : ¬ j * 2 = i * 2 + 1 := by omega
    have m4 : ¬ j * 2 + 1 = i * 2 := by omega
    generalize l[i] = p at a1 a2 HS
    generalize l[j] = q at b1 b2 HS
    obtain ⟨p1, p2⟩ := p
    obtain ⟨q1, q2⟩ := q
    dsimp only at a1 a2 b1 b2 HS
    clear h
    go_enter Try.func120, Try.ntmps120
    go_wp2_with fail
    go_region_with (fail)
    all_goals
      go_wp2
      go_returns
      exact ⟨rfl, HS.out, grownE_drew swapG⟩
end Go.Proofs.Ytnnmbgenepfacaa
