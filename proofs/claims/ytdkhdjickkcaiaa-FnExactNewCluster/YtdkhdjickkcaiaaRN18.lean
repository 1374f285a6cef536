/-
  A new cluster: what both sides answer; a replica put behind a row.
  NewReplica, a branch.
  NewReplica, a branch.
-/
import Derived.Test.YtdkhdjickkcaiaaRN14
import Derived.Test.YtdkhdjickkcaiaaRN03
import Derived.Test.YtdkhdjickkcaiaaRN17
namespace Go.Proofs.Ytdkhdjickkcaiaa.Rl
open Go.RowKit Go.Sort
set_option linter.unusedVariables false
set_option linter.unusedSimpArgs false

theorem newA_nil' (id p : Int) : (newA id p).l = [] ∧ (newA id p).ch = [] ∧ (newA id p).te = [] := by
  cases h : newB id p with
  | false => rw [newA_no h]; exact ⟨rfl, rfl, rfl⟩
  | true => rw [newA_yes h]; exact ⟨rfl, rfl, rfl⟩
theorem newA_ok' (id p : Int) : (newA id p).ok.length ≤ 5 := by
  cases h : newB id p with
  | false => rw [newA_no h]; exact Nat.zero_le _
  | true =>
    rw [newA_yes h]
    have hp : pOk p := by
      unfold newB at h
      exact of_decide_eq_true (Bool.and_eq_true_iff.1 h).1
    show (newZ id p).length ≤ 5
    unfold newZ
    split
    · rw [List.length_replicate]; rcases hp with h | h | h <;> omega
    · exact Nat.zero_le _
theorem newA_fit' (id p : Int) : Fit (newA id p) := by
  obtain ⟨n1, n2, n3⟩ := newA_nil' id p
  have n4 := newA_ok' id p
  exact ⟨by rw [n1]; exact ⟨Nat.zero_le _, fun x hx => nomatch hx⟩, by omega, by rw [n2]; exact Nat.zero_le _, by rw [n3]; exact ⟨Nat.zero_le _, fun x hx => nomatch hx⟩⟩
theorem newA_cR' (id p : Int) : cR (newA id p) ≤ 5 := by
  obtain ⟨n1, n2, n3⟩ := newA_nil' id p
  have n4 := newA_ok' id p
  unfold cR
  rw [n1, n2, n3]
  simp
  omega
/-- What NewReplica answers, as a replica of a row. -/
theorem NewAns.rx {id p : Int} {w w' : World} {e : Ending} (h : NewAns id p w e w') : ∃ y : Rx, e = .returned (.tuple #[.agg #[.int .i64 y.r.id, .int .i64 y.r.p, .int .i64 y.r.v, .bool y.r.n, .int .i64 y.r.la, .slice y.la y.r.l.length y.lc, .int .i64 y.r.c, .slice y.oa y.r.ok.length y.oc, .slice y.ca y.r.ch.length y.cc, .slice y.ta y.r.te.length y.tc], .bool (newB id p)]) ∧ y.r = newA id p ∧ RpHas w' w.heap.size y.u y.r ∧ RpAp y.u ∧ Below w.heap.size w w' := by
  obtain ⟨a, c, h1, h2, h3⟩ := h
  obtain ⟨n1, n2, n3⟩ := newA_nil' id p
  refine ⟨⟨newA id p, none, 0, a, c, none, 0, none, 0, []⟩, ?_, rfl, ⟨?_, h2, ?_, ?_, ?_, fun x hx => nomatch hx⟩, ?_, h3⟩
  · rw [h1]
    simp only
    rw [n1, n2, n3]
    rfl
  · show HasX w' _ (.slice none (newA id p).l.length 0) (newA id p).l
    rw [n1]; exact .inl ⟨rfl, rfl⟩
  · show HasN w' _ (.slice none (newA id p).ch.length 0) (newA id p).ch
    rw [n2]; exact .inl ⟨rfl, rfl⟩
  · show [] = (newA id p).te
    rw [n3]
  · show HasM w' _ (.slice none (newA id p).te.length 0) []
    rw [n3]; exact .inl ⟨rfl, rfl⟩
  · unfold RpAp Rv.rows Rx.u
    simp [ap, Value.ownBlock]
theorem wpList_pushR {ops : Array Oper} {rest : List Oper} {o : Oper} {a : Act} {Q : Exit → Act → World → Prop} (w : World) (hgd : o.guard = none) (s x : Operand)
    (ho : o.op = .call { callee := .builtin .append, args := #[s, x], argTypes := #[28, 28] }) (B : Nat) (v : Value) (L : List Rx) (y : Rx) (C : Array Value) (hC : C.toList = rxC y) (hs : a.eval s = v) (hown : OwnsR w B v L)
    (hx : a.eval x = .slice (some ⟨w.heap.size, 0, none⟩) 1 1) (hl : L.length ≤ 1000) (hB : B ≤ w.heap.size)
    (h : ∀ v' w', OwnsR w' B v' (L ++ [y]) → (w.alloc (.cells C 53)).grownBy w' v.ownBlock → (v'.ownBlock = v.ownBlock ∨ v'.ownBlock = some (w.heap.size + 1)) → wpList Try.prog ops Q rest (a.put o.dst v') w') :
    wpList Try.prog ops Q (o :: rest) a (w.alloc (.cells C 53)) := by
  refine wpList_rowE_at (E := rxE) _ hgd s x 28 53 (.agg #[.int .i64 0, .int .i64 0, .int .i64 0, .bool false, .int .i64 0, .slice none 0 0, .int .i64 0, .slice none 0 0, .slice none 0 0, .slice none 0 0]) 144 Try.underlying28 Try.infoRPV rfl ho B v L hs (OwnsE.alloc hown _) ⟨w.heap.size, 0, none⟩ 1 [y] hx (fresh_cell (E := rxE) w y C 53 hC) (by unfold maxLen; simp; omega) (by simp; omega) (by simp; omega) ?_
  intro v' w' h1 h2 _ h4
  refine h v' w' h1 h2 ?_
  rcases h4 with h4 | h4
  · exact .inl h4
  · exact .inr (by rw [h4]; simp)
/-- The replicas of a new cluster of n. -/
def newCl (n : Int) : List Rp := (List.range n.toNat).map fun (i : Nat) => newA (i : Int) n
/-- What NewCluster answers. -/
def ClAns (n : Int) (w : World) (e : Ending) (w' : World) : Prop := ∃ (L : List Rx) (a1 : Option Addr) (c1 : Nat) (b1 : Option Addr) (d1 : Nat), e = .returned (.tuple #[.agg #[.slice a1 L.length c1, .slice b1 0 d1], .bool (decide (pOk n))]) ∧ L.map (·.r) = (if pOk n then newCl n else []) ∧ HasR w' w.heap.size (.slice a1 L.length c1) L ∧ Rps w' w.heap.size L ∧ (∀ u ∈ rowsR L, ap (.slice a1 L.length c1) u) ∧ HasM w' w.heap.size (.slice b1 0 d1) [] ∧ (∀ u ∈ Value.slice a1 L.length c1 :: rowsR L, ap u (.slice b1 0 d1)) ∧ Below w.heap.size w w'
theorem ClAns.no {n : Int} {w w' : World} (h : ¬ pOk n) (hb : Below w.heap.size w w') : ClAns n w (.returned (.tuple #[.agg #[.slice none 0 0, .slice none 0 0], .bool false])) w' :=
  ⟨[], none, 0, none, 0, by rw [decide_eq_false h]; rfl, by rw [if_neg h]; rfl, .inl ⟨rfl, rfl⟩, Rps.nil _ _, (fun u hu => (by cases hu)), .inl ⟨rfl, rfl⟩, (fun u hu k h1 h2 => (by cases h2)), hb⟩
theorem newCl_nat (m : Nat) : newCl (m : Int) = (List.range m).map fun (i : Nat) => newA (i : Int) (m : Int) := by unfold newCl; simp
end Go.Proofs.Ytdkhdjickkcaiaa.Rl
namespace Go.Proofs.Ytdkhdjickkcaiaa.Rl
open Go.RowKit Go.Sort Go.Shelf
set_option linter.unusedVariables false
set_option linter.unusedSimpArgs false

set_option maxRecDepth 100000 in
set_option maxHeartbeats 8000000 in
theorem implNewA (id p : Int) (w : World) (h1 : decide (pOk p) = false) : Calls Try.prog 33 #[.int .i64 id, .int .i64 p] w fun e w' => NewAns id p w e w' := by
  have j1 := fun W => implPrs p W
  have j2 := fun W => implIp id p W
  obtain ⟨w1, hw1⟩ : ∃ w1, w1 = w.alloc (.cells #[.int .i64 0, .int .i64 0, .int .i64 0, .bool false, .int .i64 0, .slice none 0 0, .int .i64 0, .slice none 0 0, .slice none 0 0, .slice none 0 0] 53) := ⟨_, rfl⟩
  have HZ : Hid (Bx w1 w.heap.size 53 #[.int .i64 0, .int .i64 0, .int .i64 0, .bool false, .int .i64 0, .slice none 0 0, .int .i64 0, .slice none 0 0, .slice none 0 0, .slice none 0 0]) := (show Hid _ from by rw [hw1]; exact Bx.new _ _ _)
  have B1 : Hid (Below w.heap.size w w1) := (show Hid _ from by rw [hw1]; exact (Below.refl _ w).alloc (Nat.le_refl _) _)
  have SZ : Hid (w1.heap.size = w.heap.size + 1) := (show _ = _ by rw [hw1]; simp)
  have PP0 : Bx (w1.setCell ⟨w.heap.size, 0, none⟩ (.int .i64 0)) w.heap.size 53 #[.int .i64 0, .int .i64 0, .int .i64 0, .bool false, .int .i64 0, .slice none 0 0, .int .i64 0, .slice none 0 0, .slice none 0 0, .slice none 0 0] := Bx.put HZ.out 0 _
  have PP1 : Bx ((w1.setCell ⟨w.heap.size, 0, none⟩ (.int .i64 0)).setCell ⟨w.heap.size, 1, none⟩ (.int .i64 0)) w.heap.size 53 #[.int .i64 0, .int .i64 0, .int .i64 0, .bool false, .int .i64 0, .slice none 0 0, .int .i64 0, .slice none 0 0, .slice none 0 0, .slice none 0 0] := Bx.put PP0 1 _
  have PP2 : Bx (((w1.setCell ⟨w.heap.size, 0, none⟩ (.int .i64 0)).setCell ⟨w.heap.size, 1, none⟩ (.int .i64 0)).setCell ⟨w.heap.size, 2, none⟩ (.int .i64 0)) w.heap.size 53 #[.int .i64 0, .int .i64 0, .int .i64 0, .bool false, .int .i64 0, .slice none 0 0, .int .i64 0, .slice none 0 0, .slice none 0 0, .slice none 0 0] := Bx.put PP1 2 _
  have PP3 : Bx ((((w1.setCell ⟨w.heap.size, 0, none⟩ (.int .i64 0)).setCell ⟨w.heap.size, 1, none⟩ (.int .i64 0)).setCell ⟨w.heap.size, 2, none⟩ (.int .i64 0)).setCell ⟨w.heap.size, 3, none⟩ (.bool false)) w.heap.size 53 #[.int .i64 0, .int .i64 0, .int .i64 0, .bool false, .int .i64 0, .slice none 0 0, .int .i64 0, .slice none 0 0, .slice none 0 0, .slice none 0 0] := Bx.put PP2 3 _
  have PP4 : Bx (((((w1.setCell ⟨w.heap.size, 0, none⟩ (.int .i64 0)).setCell ⟨w.heap.size, 1, none⟩ (.int .i64 0)).setCell ⟨w.heap.size, 2, none⟩ (.int .i64 0)).setCell ⟨w.heap.size, 3, none⟩ (.bool false)).setCell ⟨w.heap.size, 4, none⟩ (.int .i64 0)) w.heap.size 53 #[.int .i64 0, .int .i64 0, .int .i64 0, .bool false, .int .i64 0, .slice none 0 0, .int .i64 0, .slice none 0 0, .slice none 0 0, .slice none 0 0] := Bx.put PP3 4 _
  have PP5 : Bx ((((((w1.setCell ⟨w.heap.size, 0, none⟩ (.int .i64 0)).setCell ⟨w.heap.size, 1, none⟩ (.int .i64 0)).setCell ⟨w.heap.size, 2, none⟩ (.int .i64 0)).setCell ⟨w.heap.size, 3, none⟩ (.bool false)).setCell ⟨w.heap.size, 4, none⟩ (.int .i64 0)).setCell ⟨w.heap.size, 5, none⟩ (.slice none 0 0)) w.heap.size 53 #[.int .i64 0, .int .i64 0, .int .i64 0, .bool false, .int .i64 0, .slice none 0 0, .int .i64 0, .slice none 0 0, .slice none 0 0, .slice none 0 0] := Bx.put PP4 5 _
  have PP6 : Bx (((((((w1.setCell ⟨w.heap.size, 0, none⟩ (.int .i64 0)).setCell ⟨w.heap.size, 1, none⟩ (.int .i64 0)).setCell ⟨w.heap.size, 2, none⟩ (.int .i64 0)).setCell ⟨w.heap.size, 3, none⟩ (.bool false)).setCell ⟨w.heap.size, 4, none⟩ (.int .i64 0)).setCell ⟨w.heap.size, 5, none⟩ (.slice none 0 0)).setCell ⟨w.heap.size, 6, none⟩ (.int .i64 0)) w.heap.size 53 #[.int .i64 0, .int .i64 0, .int .i64 0, .bool false, .int .i64 0, .slice none 0 0, .int .i64 0, .slice none 0 0, .slice none 0 0, .slice none 0 0] := Bx.put PP5 6 _
  have PP7 : Bx ((((((((w1.setCell ⟨w.heap.size, 0, none⟩ (.int .i64 0)).setCell ⟨w.heap.size, 1, none⟩ (.int .i64 0)).setCell ⟨w.heap.size, 2, none⟩ (.int .i64 0)).setCell ⟨w.heap.size, 3, none⟩ (.bool false)).setCell ⟨w.heap.size, 4, none⟩ (.int .i64 0)).setCell ⟨w.heap.size, 5, none⟩ (.slice none 0 0)).setCell ⟨w.heap.size, 6, none⟩ (.int .i64 0)).setCell ⟨w.heap.size, 7, none⟩ (.slice none 0 0)) w.heap.size 53 #[.int .i64 0, .int .i64 0, .int .i64 0, .bool false, .int .i64 0, .slice none 0 0, .int .i64 0, .slice none 0 0, .slice none 0 0, .slice none 0 0] := Bx.put PP6 7 _
  have PP8 : Bx (((((((((w1.setCell ⟨w.heap.size, 0, none⟩ (.int .i64 0)).setCell ⟨w.heap.size, 1, none⟩ (.int .i64 0)).setCell ⟨w.heap.size, 2, none⟩ (.int .i64 0)).setCell ⟨w.heap.size, 3, none⟩ (.bool false)).setCell ⟨w.heap.size, 4, none⟩ (.int .i64 0)).setCell ⟨w.heap.size, 5, none⟩ (.slice none 0 0)).setCell ⟨w.heap.size, 6, none⟩ (.int .i64 0)).setCell ⟨w.heap.size, 7, none⟩ (.slice none 0 0)).setCell ⟨w.heap.size, 8, none⟩ (.slice none 0 0)) w.heap.size 53 #[.int .i64 0, .int .i64 0, .int .i64 0, .bool false, .int .i64 0, .slice none 0 0, .int .i64 0, .slice none 0 0, .slice none 0 0, .slice none 0 0] := Bx.put PP7 8 _
  have PP9 : Bx ((((((((((w1.setCell ⟨w.heap.size, 0, none⟩ (.int .i64 0)).setCell ⟨w.heap.size, 1, none⟩ (.int .i64 0)).setCell ⟨w.heap.size, 2, none⟩ (.int .i64 0)).setCell ⟨w.heap.size, 3, none⟩ (.bool false)).setCell ⟨w.heap.size, 4, none⟩ (.int .i64 0)).setCell ⟨w.heap.size, 5, none⟩ (.slice none 0 0)).setCell ⟨w.heap.size, 6, none⟩ (.int .i64 0)).setCell ⟨w.heap.size, 7, none⟩ (.slice none 0 0)).setCell ⟨w.heap.size, 8, none⟩ (.slice none 0 0)).setCell ⟨w.heap.size, 9, none⟩ (.slice none 0 0)) w.heap.size 53 #[.int .i64 0, .int .i64 0, .int .i64 0, .bool false, .int .i64 0, .slice none 0 0, .int .i64 0, .slice none 0 0, .slice none 0 0, .slice none 0 0] := Bx.put PP8 9 _
  have HFZ : Hid (Bx ((((((((((w1.setCell ⟨w.heap.size, 0, none⟩ (.int .i64 0)).setCell ⟨w.heap.size, 1, none⟩ (.int .i64 0)).setCell ⟨w.heap.size, 2, none⟩ (.int .i64 0)).setCell ⟨w.heap.size, 3, none⟩ (.bool false)).setCell ⟨w.heap.size, 4, none⟩ (.int .i64 0)).setCell ⟨w.heap.size, 5, none⟩ (.slice none 0 0)).setCell ⟨w.heap.size, 6, none⟩ (.int .i64 0)).setCell ⟨w.heap.size, 7, none⟩ (.slice none 0 0)).setCell ⟨w.heap.size, 8, none⟩ (.slice none 0 0)).setCell ⟨w.heap.size, 9, none⟩ (.slice none 0 0)) w.heap.size 53 #[.int .i64 0, .int .i64 0, .int .i64 0, .bool false, .int .i64 0, .slice none 0 0, .int .i64 0, .slice none 0 0, .slice none 0 0, .slice none 0 0]) := PP9
  clear PP0 PP1 PP2 PP3 PP4 PP5 PP6 PP7 PP8 PP9
  have BFZ : Hid (Below w.heap.size w ((((((((((w1.setCell ⟨w.heap.size, 0, none⟩ (.int .i64 0)).setCell ⟨w.heap.size, 1, none⟩ (.int .i64 0)).setCell ⟨w.heap.size, 2, none⟩ (.int .i64 0)).setCell ⟨w.heap.size, 3, none⟩ (.bool false)).setCell ⟨w.heap.size, 4, none⟩ (.int .i64 0)).setCell ⟨w.heap.size, 5, none⟩ (.slice none 0 0)).setCell ⟨w.heap.size, 6, none⟩ (.int .i64 0)).setCell ⟨w.heap.size, 7, none⟩ (.slice none 0 0)).setCell ⟨w.heap.size, 8, none⟩ (.slice none 0 0)).setCell ⟨w.heap.size, 9, none⟩ (.slice none 0 0))) := (show Hid _ from ((((((((((B1.out.setCell (p := ⟨w.heap.size, 0, none⟩) (Nat.le_refl _) _).setCell (p := ⟨w.heap.size, 1, none⟩) (Nat.le_refl _) _).setCell (p := ⟨w.heap.size, 2, none⟩) (Nat.le_refl _) _).setCell (p := ⟨w.heap.size, 3, none⟩) (Nat.le_refl _) _).setCell (p := ⟨w.heap.size, 4, none⟩) (Nat.le_refl _) _).setCell (p := ⟨w.heap.size, 5, none⟩) (Nat.le_refl _) _).setCell (p := ⟨w.heap.size, 6, none⟩) (Nat.le_refl _) _).setCell (p := ⟨w.heap.size, 7, none⟩) (Nat.le_refl _) _).setCell (p := ⟨w.heap.size, 8, none⟩) (Nat.le_refl _) _).setCell (p := ⟨w.heap.size, 9, none⟩) (Nat.le_refl _) _))
  go_enter Try.func33, Try.ntmps33
  go_upto_region 1 with fail
  rw [← hw1]
  clear hw1
  have hno : Hid (newB id p = false) := (show _ = _ by unfold newB; rw [h1]; rfl)
  rw [h1] at j1
  clear h1
  go_wp2_with fail
  refine (j1 _).mono ?_
  rintro e w2 ⟨rfl, rfl⟩
  have z0 := HZ.out.cell 0
  have z1 := HZ.out.cell 1
  have z2 := HZ.out.cell 2
  have z3 := HZ.out.cell 3
  have z4 := HZ.out.cell 4
  have z5 := HZ.out.cell 5
  have z6 := HZ.out.cell 6
  have z7 := HZ.out.cell 7
  have z8 := HZ.out.cell 8
  have z9 := HZ.out.cell 9
  have zf0 := HZ.out.free 0
  have zf1 := HZ.out.free 1
  have zf2 := HZ.out.free 2
  have zf3 := HZ.out.free 3
  have zf4 := HZ.out.free 4
  have zf5 := HZ.out.free 5
  have zf6 := HZ.out.free 6
  have zf7 := HZ.out.free 7
  have zf8 := HZ.out.free 8
  have zf9 := HZ.out.free 9
  go_wp2
  clear z0 z1 z2 z3 z4 z5 z6 z7 z8 z9 zf0 zf1 zf2 zf3 zf4 zf5 zf6 zf7 zf8 zf9
  generalize ((((((((((w1.setCell ⟨w.heap.size, 0, none⟩ (.int .i64 0)).setCell ⟨w.heap.size, 1, none⟩ (.int .i64 0)).setCell ⟨w.heap.size, 2, none⟩ (.int .i64 0)).setCell ⟨w.heap.size, 3, none⟩ (.bool false)).setCell ⟨w.heap.size, 4, none⟩ (.int .i64 0)).setCell ⟨w.heap.size, 5, none⟩ (.slice none 0 0)).setCell ⟨w.heap.size, 6, none⟩ (.int .i64 0)).setCell ⟨w.heap.size, 7, none⟩ (.slice none 0 0)).setCell ⟨w.heap.size, 8, none⟩ (.slice none 0 0)).setCell ⟨w.heap.size, 9, none⟩ (.slice none 0 0)) = w5 at HFZ BFZ ⊢
  have y0 := HFZ.out.cell 0
  have y1 := HFZ.out.cell 1
  have y2 := HFZ.out.cell 2
  have y3 := HFZ.out.cell 3
  have y4 := HFZ.out.cell 4
  have y5 := HFZ.out.cell 5
  have y6 := HFZ.out.cell 6
  have y7 := HFZ.out.cell 7
  have y8 := HFZ.out.cell 8
  have y9 := HFZ.out.cell 9
  refine bodyPost_ret (v := .tuple #[.agg #[.int .i64 0, .int .i64 0, .int .i64 0, .bool false, .int .i64 0, .slice none 0 0, .int .i64 0, .slice none 0 0, .slice none 0 0, .slice none 0 0], .bool false]) (by simp [results, Try.results33, go_sem, y0, y1, y2, y3, y4, y5, y6, y7, y8, y9]) rfl ?_
  exact NewAns.no hno.out BFZ.out
end Go.Proofs.Ytdkhdjickkcaiaa.Rl
namespace Go.Proofs.Ytdkhdjickkcaiaa.Rl
open Go.RowKit Go.Sort Go.Shelf
set_option linter.unusedVariables false
set_option linter.unusedSimpArgs false

set_option maxRecDepth 100000 in
set_option maxHeartbeats 8000000 in
theorem implNewB (id p : Int) (w : World) (h1 : decide (pOk p) = true) (h2 : ipB id p = false) : Calls Try.prog 33 #[.int .i64 id, .int .i64 p] w fun e w' => NewAns id p w e w' := by
  have j1 := fun W => implPrs p W
  have j2 := fun W => implIp id p W
  obtain ⟨w1, hw1⟩ : ∃ w1, w1 = w.alloc (.cells #[.int .i64 0, .int .i64 0, .int .i64 0, .bool false, .int .i64 0, .slice none 0 0, .int .i64 0, .slice none 0 0, .slice none 0 0, .slice none 0 0] 53) := ⟨_, rfl⟩
  have HZ : Hid (Bx w1 w.heap.size 53 #[.int .i64 0, .int .i64 0, .int .i64 0, .bool false, .int .i64 0, .slice none 0 0, .int .i64 0, .slice none 0 0, .slice none 0 0, .slice none 0 0]) := (show Hid _ from by rw [hw1]; exact Bx.new _ _ _)
  have B1 : Hid (Below w.heap.size w w1) := (show Hid _ from by rw [hw1]; exact (Below.refl _ w).alloc (Nat.le_refl _) _)
  have SZ : Hid (w1.heap.size = w.heap.size + 1) := (show _ = _ by rw [hw1]; simp)
  have PP0 : Bx (w1.setCell ⟨w.heap.size, 0, none⟩ (.int .i64 0)) w.heap.size 53 #[.int .i64 0, .int .i64 0, .int .i64 0, .bool false, .int .i64 0, .slice none 0 0, .int .i64 0, .slice none 0 0, .slice none 0 0, .slice none 0 0] := Bx.put HZ.out 0 _
  have PP1 : Bx ((w1.setCell ⟨w.heap.size, 0, none⟩ (.int .i64 0)).setCell ⟨w.heap.size, 1, none⟩ (.int .i64 0)) w.heap.size 53 #[.int .i64 0, .int .i64 0, .int .i64 0, .bool false, .int .i64 0, .slice none 0 0, .int .i64 0, .slice none 0 0, .slice none 0 0, .slice none 0 0] := Bx.put PP0 1 _
  have PP2 : Bx (((w1.setCell ⟨w.heap.size, 0, none⟩ (.int .i64 0)).setCell ⟨w.heap.size, 1, none⟩ (.int .i64 0)).setCell ⟨w.heap.size, 2, none⟩ (.int .i64 0)) w.heap.size 53 #[.int .i64 0, .int .i64 0, .int .i64 0, .bool false, .int .i64 0, .slice none 0 0, .int .i64 0, .slice none 0 0, .slice none 0 0, .slice none 0 0] := Bx.put PP1 2 _
  have PP3 : Bx ((((w1.setCell ⟨w.heap.size, 0, none⟩ (.int .i64 0)).setCell ⟨w.heap.size, 1, none⟩ (.int .i64 0)).setCell ⟨w.heap.size, 2, none⟩ (.int .i64 0)).setCell ⟨w.heap.size, 3, none⟩ (.bool false)) w.heap.size 53 #[.int .i64 0, .int .i64 0, .int .i64 0, .bool false, .int .i64 0, .slice none 0 0, .int .i64 0, .slice none 0 0, .slice none 0 0, .slice none 0 0] := Bx.put PP2 3 _
  have PP4 : Bx (((((w1.setCell ⟨w.heap.size, 0, none⟩ (.int .i64 0)).setCell ⟨w.heap.size, 1, none⟩ (.int .i64 0)).setCell ⟨w.heap.size, 2, none⟩ (.int .i64 0)).setCell ⟨w.heap.size, 3, none⟩ (.bool false)).setCell ⟨w.heap.size, 4, none⟩ (.int .i64 0)) w.heap.size 53 #[.int .i64 0, .int .i64 0, .int .i64 0, .bool false, .int .i64 0, .slice none 0 0, .int .i64 0, .slice none 0 0, .slice none 0 0, .slice none 0 0] := Bx.put PP3 4 _
  have PP5 : Bx ((((((w1.setCell ⟨w.heap.size, 0, none⟩ (.int .i64 0)).setCell ⟨w.heap.size, 1, none⟩ (.int .i64 0)).setCell ⟨w.heap.size, 2, none⟩ (.int .i64 0)).setCell ⟨w.heap.size, 3, none⟩ (.bool false)).setCell ⟨w.heap.size, 4, none⟩ (.int .i64 0)).setCell ⟨w.heap.size, 5, none⟩ (.slice none 0 0)) w.heap.size 53 #[.int .i64 0, .int .i64 0, .int .i64 0, .bool false, .int .i64 0, .slice none 0 0, .int .i64 0, .slice none 0 0, .slice none 0 0, .slice none 0 0] := Bx.put PP4 5 _
  have PP6 : Bx (((((((w1.setCell ⟨w.heap.size, 0, none⟩ (.int .i64 0)).setCell ⟨w.heap.size, 1, none⟩ (.int .i64 0)).setCell ⟨w.heap.size, 2, none⟩ (.int .i64 0)).setCell ⟨w.heap.size, 3, none⟩ (.bool false)).setCell ⟨w.heap.size, 4, none⟩ (.int .i64 0)).setCell ⟨w.heap.size, 5, none⟩ (.slice none 0 0)).setCell ⟨w.heap.size, 6, none⟩ (.int .i64 0)) w.heap.size 53 #[.int .i64 0, .int .i64 0, .int .i64 0, .bool false, .int .i64 0, .slice none 0 0, .int .i64 0, .slice none 0 0, .slice none 0 0, .slice none 0 0] := Bx.put PP5 6 _
  have PP7 : Bx ((((((((w1.setCell ⟨w.heap.size, 0, none⟩ (.int .i64 0)).setCell ⟨w.heap.size, 1, none⟩ (.int .i64 0)).setCell ⟨w.heap.size, 2, none⟩ (.int .i64 0)).setCell ⟨w.heap.size, 3, none⟩ (.bool false)).setCell ⟨w.heap.size, 4, none⟩ (.int .i64 0)).setCell ⟨w.heap.size, 5, none⟩ (.slice none 0 0)).setCell ⟨w.heap.size, 6, none⟩ (.int .i64 0)).setCell ⟨w.heap.size, 7, none⟩ (.slice none 0 0)) w.heap.size 53 #[.int .i64 0, .int .i64 0, .int .i64 0, .bool false, .int .i64 0, .slice none 0 0, .int .i64 0, .slice none 0 0, .slice none 0 0, .slice none 0 0] := Bx.put PP6 7 _
  have PP8 : Bx (((((((((w1.setCell ⟨w.heap.size, 0, none⟩ (.int .i64 0)).setCell ⟨w.heap.size, 1, none⟩ (.int .i64 0)).setCell ⟨w.heap.size, 2, none⟩ (.int .i64 0)).setCell ⟨w.heap.size, 3, none⟩ (.bool false)).setCell ⟨w.heap.size, 4, none⟩ (.int .i64 0)).setCell ⟨w.heap.size, 5, none⟩ (.slice none 0 0)).setCell ⟨w.heap.size, 6, none⟩ (.int .i64 0)).setCell ⟨w.heap.size, 7, none⟩ (.slice none 0 0)).setCell ⟨w.heap.size, 8, none⟩ (.slice none 0 0)) w.heap.size 53 #[.int .i64 0, .int .i64 0, .int .i64 0, .bool false, .int .i64 0, .slice none 0 0, .int .i64 0, .slice none 0 0, .slice none 0 0, .slice none 0 0] := Bx.put PP7 8 _
  have PP9 : Bx ((((((((((w1.setCell ⟨w.heap.size, 0, none⟩ (.int .i64 0)).setCell ⟨w.heap.size, 1, none⟩ (.int .i64 0)).setCell ⟨w.heap.size, 2, none⟩ (.int .i64 0)).setCell ⟨w.heap.size, 3, none⟩ (.bool false)).setCell ⟨w.heap.size, 4, none⟩ (.int .i64 0)).setCell ⟨w.heap.size, 5, none⟩ (.slice none 0 0)).setCell ⟨w.heap.size, 6, none⟩ (.int .i64 0)).setCell ⟨w.heap.size, 7, none⟩ (.slice none 0 0)).setCell ⟨w.heap.size, 8, none⟩ (.slice none 0 0)).setCell ⟨w.heap.size, 9, none⟩ (.slice none 0 0)) w.heap.size 53 #[.int .i64 0, .int .i64 0, .int .i64 0, .bool false, .int .i64 0, .slice none 0 0, .int .i64 0, .slice none 0 0, .slice none 0 0, .slice none 0 0] := Bx.put PP8 9 _
  have HFZ : Hid (Bx ((((((((((w1.setCell ⟨w.heap.size, 0, none⟩ (.int .i64 0)).setCell ⟨w.heap.size, 1, none⟩ (.int .i64 0)).setCell ⟨w.heap.size, 2, none⟩ (.int .i64 0)).setCell ⟨w.heap.size, 3, none⟩ (.bool false)).setCell ⟨w.heap.size, 4, none⟩ (.int .i64 0)).setCell ⟨w.heap.size, 5, none⟩ (.slice none 0 0)).setCell ⟨w.heap.size, 6, none⟩ (.int .i64 0)).setCell ⟨w.heap.size, 7, none⟩ (.slice none 0 0)).setCell ⟨w.heap.size, 8, none⟩ (.slice none 0 0)).setCell ⟨w.heap.size, 9, none⟩ (.slice none 0 0)) w.heap.size 53 #[.int .i64 0, .int .i64 0, .int .i64 0, .bool false, .int .i64 0, .slice none 0 0, .int .i64 0, .slice none 0 0, .slice none 0 0, .slice none 0 0]) := PP9
  clear PP0 PP1 PP2 PP3 PP4 PP5 PP6 PP7 PP8 PP9
  have BFZ : Hid (Below w.heap.size w ((((((((((w1.setCell ⟨w.heap.size, 0, none⟩ (.int .i64 0)).setCell ⟨w.heap.size, 1, none⟩ (.int .i64 0)).setCell ⟨w.heap.size, 2, none⟩ (.int .i64 0)).setCell ⟨w.heap.size, 3, none⟩ (.bool false)).setCell ⟨w.heap.size, 4, none⟩ (.int .i64 0)).setCell ⟨w.heap.size, 5, none⟩ (.slice none 0 0)).setCell ⟨w.heap.size, 6, none⟩ (.int .i64 0)).setCell ⟨w.heap.size, 7, none⟩ (.slice none 0 0)).setCell ⟨w.heap.size, 8, none⟩ (.slice none 0 0)).setCell ⟨w.heap.size, 9, none⟩ (.slice none 0 0))) := (show Hid _ from ((((((((((B1.out.setCell (p := ⟨w.heap.size, 0, none⟩) (Nat.le_refl _) _).setCell (p := ⟨w.heap.size, 1, none⟩) (Nat.le_refl _) _).setCell (p := ⟨w.heap.size, 2, none⟩) (Nat.le_refl _) _).setCell (p := ⟨w.heap.size, 3, none⟩) (Nat.le_refl _) _).setCell (p := ⟨w.heap.size, 4, none⟩) (Nat.le_refl _) _).setCell (p := ⟨w.heap.size, 5, none⟩) (Nat.le_refl _) _).setCell (p := ⟨w.heap.size, 6, none⟩) (Nat.le_refl _) _).setCell (p := ⟨w.heap.size, 7, none⟩) (Nat.le_refl _) _).setCell (p := ⟨w.heap.size, 8, none⟩) (Nat.le_refl _) _).setCell (p := ⟨w.heap.size, 9, none⟩) (Nat.le_refl _) _))
  go_enter Try.func33, Try.ntmps33
  go_upto_region 1 with fail
  rw [← hw1]
  clear hw1
  have HP : Hid (pOk p) := (show pOk p from of_decide_eq_true h1)
  rw [h1] at j1
  clear h1
  have hno : Hid (newB id p = false) := (show _ = _ by unfold newB; rw [h2, Bool.and_false])
  rw [h2] at j2
  clear h2
  go_wp2_with fail
  refine (j1 _).mono ?_
  rintro e w2 ⟨rfl, rfl⟩
  go_wp2_with fail
  refine (j2 _).mono ?_
  rintro e w2 ⟨rfl, rfl⟩
  have z0 := HZ.out.cell 0
  have z1 := HZ.out.cell 1
  have z2 := HZ.out.cell 2
  have z3 := HZ.out.cell 3
  have z4 := HZ.out.cell 4
  have z5 := HZ.out.cell 5
  have z6 := HZ.out.cell 6
  have z7 := HZ.out.cell 7
  have z8 := HZ.out.cell 8
  have z9 := HZ.out.cell 9
  have zf0 := HZ.out.free 0
  have zf1 := HZ.out.free 1
  have zf2 := HZ.out.free 2
  have zf3 := HZ.out.free 3
  have zf4 := HZ.out.free 4
  have zf5 := HZ.out.free 5
  have zf6 := HZ.out.free 6
  have zf7 := HZ.out.free 7
  have zf8 := HZ.out.free 8
  have zf9 := HZ.out.free 9
  go_wp2
  clear z0 z1 z2 z3 z4 z5 z6 z7 z8 z9 zf0 zf1 zf2 zf3 zf4 zf5 zf6 zf7 zf8 zf9
  generalize ((((((((((w1.setCell ⟨w.heap.size, 0, none⟩ (.int .i64 0)).setCell ⟨w.heap.size, 1, none⟩ (.int .i64 0)).setCell ⟨w.heap.size, 2, none⟩ (.int .i64 0)).setCell ⟨w.heap.size, 3, none⟩ (.bool false)).setCell ⟨w.heap.size, 4, none⟩ (.int .i64 0)).setCell ⟨w.heap.size, 5, none⟩ (.slice none 0 0)).setCell ⟨w.heap.size, 6, none⟩ (.int .i64 0)).setCell ⟨w.heap.size, 7, none⟩ (.slice none 0 0)).setCell ⟨w.heap.size, 8, none⟩ (.slice none 0 0)).setCell ⟨w.heap.size, 9, none⟩ (.slice none 0 0)) = w5 at HFZ BFZ ⊢
  have y0 := HFZ.out.cell 0
  have y1 := HFZ.out.cell 1
  have y2 := HFZ.out.cell 2
  have y3 := HFZ.out.cell 3
  have y4 := HFZ.out.cell 4
  have y5 := HFZ.out.cell 5
  have y6 := HFZ.out.cell 6
  have y7 := HFZ.out.cell 7
  have y8 := HFZ.out.cell 8
  have y9 := HFZ.out.cell 9
  refine bodyPost_ret (v := .tuple #[.agg #[.int .i64 0, .int .i64 0, .int .i64 0, .bool false, .int .i64 0, .slice none 0 0, .int .i64 0, .slice none 0 0, .slice none 0 0, .slice none 0 0], .bool false]) (by simp [results, Try.results33, go_sem, y0, y1, y2, y3, y4, y5, y6, y7, y8, y9]) rfl ?_
  exact NewAns.no hno.out BFZ.out
end Go.Proofs.Ytdkhdjickkcaiaa.Rl
