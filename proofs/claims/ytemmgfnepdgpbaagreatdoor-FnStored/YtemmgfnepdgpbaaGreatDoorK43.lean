/-
  Rows of objects.
  The laws' comparison and copy of rows of objects.
  Two rows of fields that are alike: the law's own comparison says so.
  The laws' own likeness of messages; drawn messages, whatever the code.
-/
import Derived.Test.YtemmgfnepdgpbaaGreatDoorK22
import Derived.Test.YtemmgfnepdgpbaaGreatDoorK12
import Derived.Test.YtemmgfnepdgpbaaGreatDoorK21
import Derived.Test.YtemmgfnepdgpbaaGreatDoorK23
import Derived.Test.YtemmgfnepdgpbaaGreatDoorK38
import Derived.Lib.QuietBelow
import Derived.BigQuiet
import Derived.Deep.RegionWith
import Derived.Deep.DeepCutAuto
import Derived.Test.YtemmgfnepdgpbaaGreatDoorK14
import Derived.Laws.StructEq
import Derived.Test.YtemmgfnepdgpbaaGreatDoorK19
import Derived.Test.YtemmgfnepdgpbaaGreatDoorK42
namespace Go.Proofs.YtemmgfnepdgpbaaGreatDoor
open Go.RowKit Go.Sort
set_option linter.unusedVariables false
set_option linter.unusedSimpArgs false

/-- An object and where its fields lie. -/
structure Ox where
  o : Ob
  pa : Option Addr
  pc : Nat
  ua : Option Addr
  uc : Nat
def Ox.v (x : Ox) : Value := .slice x.pa x.o.l.length x.pc
def Ox.u (x : Ox) : Value := .slice x.ua x.o.r.l.length x.uc
end Go.Proofs.YtemmgfnepdgpbaaGreatDoor
namespace Go.Proofs.YtemmgfnepdgpbaaGreatDoor
open Go.RowKit Go.Sort
set_option linter.unusedVariables false
set_option linter.unusedSimpArgs false

def setsL : List Value → List Value → Nat → List Value
  | l, [], _ => l
  | l, v :: vs, i => setsL (l.set i v) vs (i + 1)
theorem putL_heap {g : Nat} {T : TypeId} : ∀ (vs : List Value) (i : Nat) (x : World) (c : Array Value), x.heap[g]? = some (Obj.cells c T (0, 0)) → ∃ c' : Array Value, (putL x g vs i).heap[g]? = some (Obj.cells c' T (0, 0)) ∧ c'.toList = setsL c.toList vs i ∧ c'.size = c.size
  | [], _, x, c, h => ⟨c, h, rfl, rfl⟩
  | v :: vs, i, x, c, h => by
    obtain ⟨c', h1, h2, h3⟩ := putL_heap vs (i + 1) _ _ (heap_setCell_same x g i c T v h)
    refine ⟨c', h1, ?_, by rw [h3]; simp⟩
    rw [h2]
    show setsL (c.setIfInBounds i v).toList vs (i + 1) = setsL (c.toList.set i v) vs (i + 1)
    rw [Array.toList_setIfInBounds]
theorem setsL_mid : ∀ (vs pre mid post : List Value), mid.length = vs.length → setsL (pre ++ mid ++ post) vs pre.length = pre ++ vs ++ post
  | [], pre, mid, post, h => by
    have : mid = [] := List.eq_nil_of_length_eq_zero h
    subst this
    rfl
  | v :: vs, pre, [], post, h => by simp at h
  | v :: vs, pre, m :: mid, post, h => by
    have e : (pre ++ m :: mid ++ post).set pre.length v = (pre ++ [v]) ++ mid ++ post := by simp
    have e2 := setsL_mid vs (pre ++ [v]) mid post (by simpa using h)
    rw [List.length_append] at e2
    show setsL ((pre ++ m :: mid ++ post).set pre.length v) vs (pre.length + 1) = _
    rw [e]
    have e3 : pre.length + [v].length = pre.length + 1 := rfl
    rw [e3] at e2
    rw [e2]
    simp
theorem HasE.puts {α : Type} {E : Enc α} {ty : TypeId} {w : World} {B g n cap : Nat} {l : List α} (h : HasE E ty w B (.slice (some ⟨g, 0, Option.none⟩) n cap) l) {j : Nat} (hj : j < l.length) (y : α) : HasE E ty (putL w g (E.c y) (j * E.k)) B (.slice (some ⟨g, 0, Option.none⟩) n cap) (l.set j y) := by
  rcases h with ⟨h0, _⟩ | ⟨g', cap', cur, hv, hB, hg, h1, h2, h3, h4⟩
  · cases h0
  · cases hv
    obtain ⟨c', k1, k2, k3⟩ := putL_heap (E.c y) (j * E.k) w cur hg
    refine .inr ⟨g, cap, c', by rw [List.length_set], hB, k1, by rw [List.length_set]; exact h1, h2, by rw [k3]; exact h3, ?_⟩
    rw [List.length_set, k2]
    have hsplit : cur.toList = cellsE E l ++ cur.toList.drop (l.length * E.k) := by rw [← h4, List.take_append_drop]
    have hl : l = l.take j ++ [l[j]] ++ l.drop (j + 1) := by simp
    have hc : cellsE E l = cellsE E (l.take j) ++ E.c l[j] ++ cellsE E (l.drop (j + 1)) := by
      conv => lhs; rw [hl]
      rw [cellsE_append, cellsE_append, cellsE_single]
    have hpl : (cellsE E (l.take j)).length = j * E.k := by rw [cellsE_length, List.length_take]; congr 1; omega
    have hs : l.set j y = l.take j ++ [y] ++ l.drop (j + 1) := by rw [List.set_eq_take_append_cons_drop, if_pos hj]; simp
    rw [hsplit, hc, List.append_assoc, ← hpl, setsL_mid _ _ _ _ (by rw [E.len, E.len]), hs, cellsE_append, cellsE_append, cellsE_single]
    rw [← List.append_assoc]
    refine List.take_left' ?_
    have hlen := cellsE_length E l
    rw [hc] at hlen
    simp only [List.length_append, E.len] at hlen ⊢
    exact hlen
/-- A row of copies of objects: the same objects, each with rows of its own. -/
def SameO (L M : List Ox) : Prop := M.map (·.o) = L.map (·.o)
def RowsIn (w : World) (M : List Ox) : Prop := ∀ x ∈ M, Fls w x.v x.o.l ∧ Fls w x.u x.o.r.l
theorem RowsIn.kept {w w' : World} {M : List Ox} (h : RowsIn w M) (hb : Below w.heap.size w w') : RowsIn w' M := fun x hx => ⟨(h x hx).1.kept hb, (h x hx).2.kept hb⟩
theorem SameO.len {L M : List Ox} (h : SameO L M) : M.length = L.length := by have := congrArg List.length h; simpa using this
theorem SameO.at {L M : List Ox} (h : SameO L M) {j : Nat} (h1 : j < M.length) (h2 : j < L.length) : M[j].o = L[j].o := by
  have := congrArg (fun l => l[j]?) h
  simpa [h1, h2] using this
end Go.Proofs.YtemmgfnepdgpbaaGreatDoor
namespace Go.Proofs.YtemmgfnepdgpbaaGreatDoor
open Go.RowKit Go.Sort

set_option maxHeartbeats 400000 in
theorem likeF (va vb : Value) (l : List Fl) (w : World) (ha : Fls w va l) (hb : Fls w vb l) (hl : l.length ≤ 1048576) :
    Calls Tryz.prog 37 #[va, vb] w fun e w' => e = .returned (.bool true) ∧ Grew w w' := by
  obtain ⟨a, ca, rfl, a1, a2, a3⟩ := ha
  obtain ⟨b, cb, rfl, b1, b2, b3⟩ := hb
  have hmx := mixed
  go_enter Tryz.func37, Tryz.ntmps37
  go_wp2
  go_loopw [5] (fun i wr => ∃ (k : Nat), k ≤ l.length ∧ i = .int .i64 k ∧ Grew w wr) (fun i _ => l.length - (intOf i).toNat)
  case atStart => exact ⟨0, Nat.zero_le _, rfl, Grew.refl _⟩
  case round =>
    obtain ⟨k, hk, rfl, hg⟩ := hrel
    by_cases hlt : k < l.length
    · obtain ⟨ga, oa, rfl, hga, hca⟩ := a3 (by omega)
      obtain ⟨gb, ob, rfl, hgb, hcb⟩ := b3 (by omega)
      have c1 := hg.cell (hca k hlt).1 hga
      have c2 := hg.cell (hca k hlt).2 hga
      have c3 := hg.cell (hcb k hlt).1 hgb
      have c4 := hg.cell (hcb k hlt).2 hgb
      generalize l[k] = f at c1 c2 c3 c4
      clear a3 b3 hca hcb
      go_wp2
      go_quiet (fail)
      have hg2 : Grew w (wr.drewN nq) := hg.drewN _
      generalize wr.drewN nq = w1 at hg2 ⊢
      go_wp2
      go_roundw
      case rel => exact ⟨k + 1, by omega, by go_num, hg2⟩
      case measure => simp [intOf]; omega
    · go_wp2
      go_ret
      exact ⟨rfl, hg⟩
end Go.Proofs.YtemmgfnepdgpbaaGreatDoor
namespace Go.Proofs.YtemmgfnepdgpbaaGreatDoor
open Go.RowKit Go.Sort
set_option maxHeartbeats 1000000 in
theorem likeS (r : Rs) (va vb : Value) (w : World) (ha : Fls w va r.l) (hb : Fls w vb r.l) (hl : r.l.length ≤ 1048576) :
    Calls Tryz.prog 38 #[rsV r va, rsV r vb] w fun e w' => e = .returned (.bool true) ∧ Below w.heap.size w w' := by
  have hfa := ha
  have hfb := hb
  obtain ⟨a, ca, rfl, _⟩ := hfa
  obtain ⟨b, cb, rfl, _⟩ := hfb
  unfold rsV
  have B0 : Below w.heap.size w ((w.alloc (.cells #[.int .i64 r.s, .slice a r.l.length ca, .string r.b] 26)).alloc (.cells #[.int .i64 r.s, .slice b r.l.length cb, .string r.b] 26)) := ((Below.refl _ w).alloc (Nat.le_refl _) _).alloc (by simp) _
  have hq := likeF _ _ r.l _ (ha.kept B0) (hb.kept B0) hl
  have P0 : Hid (RsB ((w.alloc (.cells #[.int .i64 r.s, .slice a r.l.length ca, .string r.b] 26)).alloc (.cells #[.int .i64 r.s, .slice b r.l.length cb, .string r.b] 26)) w.heap.size r (.slice a r.l.length ca)) := (RsB.new w r _ _).alloc _
  have P1 : Hid (RsB ((w.alloc (.cells #[.int .i64 r.s, .slice a r.l.length ca, .string r.b] 26)).alloc (.cells #[.int .i64 r.s, .slice b r.l.length cb, .string r.b] 26)) (w.heap.size + 1) r (.slice b r.l.length cb)) := by
    have := RsB.new (w.alloc (.cells #[.int .i64 r.s, .slice a r.l.length ca, .string r.b] 26)) r (.slice b r.l.length cb) 26
    rw [show (w.alloc (.cells #[.int .i64 r.s, .slice a r.l.length ca, .string r.b] 26)).heap.size = w.heap.size + 1 by simp] at this
    exact this
  have HB : Hid _ := B0
  have e0 := P0.out.c0
  have e1 := P0.out.c1
  have e2 := P0.out.c2
  have g0 := P1.out.c0
  have g1 := P1.out.c1
  have g2 := P1.out.c2
  clear ha hb B0
  go_enter Tryz.func38, Tryz.ntmps38
  go_wp2_with fail
  refine hq.mono ?_
  rintro e w1 ⟨rfl, hg⟩
  have S0 : Hid (RsB w1 w.heap.size r (.slice a r.l.length ca)) := P0.out.next hg.low
  have S1 : Hid (RsB w1 (w.heap.size + 1) r (.slice b r.l.length cb)) := P1.out.next hg.low
  have B1 : Hid (Below w.heap.size w w1) := past6 HB.out hg.low
  have a2 := S0.out.c2
  have b2 := S1.out.c2
  clear P0 P1 HB hg hq S0 S1
  go_wp2
  go_ret
  exact ⟨rfl, B1.out⟩


end Go.Proofs.YtemmgfnepdgpbaaGreatDoor
