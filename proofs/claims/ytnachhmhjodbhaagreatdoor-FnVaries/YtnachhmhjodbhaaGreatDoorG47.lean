/-
  The laws' measure and comparison of rows of objects.
  The laws' comparison and copy of rows of objects.
  The laws' copy of a row of objects.
  The walk of the exact law of Chosen, given what the program's own function answers.
-/
import Derived.Test.YtnachhmhjodbhaaGreatDoorG29
import Derived.Test.YtnachhmhjodbhaaGreatDoorG32
import Derived.Test.YtnachhmhjodbhaaGreatDoorG40
import Derived.Lib.QuietBelow
import Derived.BigQuiet
import Derived.Test.YtnachhmhjodbhaaGreatDoorG24
namespace Go.Proofs.YtnachhmhjodbhaaGreatDoor
open Go.RowKit Go.Sort
set_option linter.unusedVariables false
set_option linter.unusedSimpArgs false

/-- An object that is small enough. -/
def OxSm (x : Ox) : Prop := x.o.k.size ≤ 1048576 ∧ x.o.l.length ≤ 1048576 ∧ szL x.o.l ≤ 1048576 ∧ x.o.r.l.length ≤ 1048576 ∧ szL x.o.r.l ≤ 1048576 ∧ x.o.r.b.size ≤ 1048576
end Go.Proofs.YtnachhmhjodbhaaGreatDoor
namespace Go.Proofs.YtnachhmhjodbhaaGreatDoor
open Go.RowKit Go.Sort
set_option linter.unusedVariables false
set_option linter.unusedSimpArgs false

def setsL : List Value → List Value → Nat → List Value
  | l, [], _ => l
  | l, v :: vs, i => setsL (l.set i v) vs (i + 1)
theorem putL_heap {g : Nat} {T : TypeId} : ∀ (vs : List Value) (i : Nat) (x : World) (c : Array Value), x.heap[g]? = some (Obj.cells c T (0, 0)) → ∃ c' : Array Value, (putL x g vs i).heap[g]? = some (Obj.cells c' T (0, 0)) ∧ c'.toList = setsL c.toList vs i ∧ c'.size = c.size
  | [], _, x, c, h => ⟨c, h, rfl, rfl⟩
  | v :: vs, i, x, c, h => by
    obtain ⟨c', h1, h2, h3⟩ := putL_heap vs (i + 1) _ _ (heap_setCell_same x g i c T v h)
    refine ⟨c', h1, ?_, by rw [h3]; simp⟩
    rw [h2]
    show setsL (c.setIfInBounds i v).toList vs (i + 1) = setsL (c.toList.set i v) vs (i + 1)
    rw [Array.toList_setIfInBounds]
theorem setsL_mid : ∀ (vs pre mid post : List Value), mid.length = vs.length → setsL (pre ++ mid ++ post) vs pre.length = pre ++ vs ++ post
  | [], pre, mid, post, h => by
    have : mid = [] := List.eq_nil_of_length_eq_zero h
    subst this
    rfl
  | v :: vs, pre, [], post, h => by simp at h
  | v :: vs, pre, m :: mid, post, h => by
    have e : (pre ++ m :: mid ++ post).set pre.length v = (pre ++ [v]) ++ mid ++ post := by simp
    have e2 := setsL_mid vs (pre ++ [v]) mid post (by simpa using h)
    rw [List.length_append] at e2
    show setsL ((pre ++ m :: mid ++ post).set pre.length v) vs (pre.length + 1) = _
    rw [e]
    have e3 : pre.length + [v].length = pre.length + 1 := rfl
    rw [e3] at e2
    rw [e2]
    simp
theorem HasE.puts {α : Type} {E : Enc α} {ty : TypeId} {w : World} {B g n cap : Nat} {l : List α} (h : HasE E ty w B (.slice (some ⟨g, 0, Option.none⟩) n cap) l) {j : Nat} (hj : j < l.length) (y : α) : HasE E ty (putL w g (E.c y) (j * E.k)) B (.slice (some ⟨g, 0, Option.none⟩) n cap) (l.set j y) := by
  rcases h with ⟨h0, _⟩ | ⟨g', cap', cur, hv, hB, hg, h1, h2, h3, h4⟩
  · cases h0
  · cases hv
    obtain ⟨c', k1, k2, k3⟩ := putL_heap (E.c y) (j * E.k) w cur hg
    refine .inr ⟨g, cap, c', by rw [List.length_set], hB, k1, by rw [List.length_set]; exact h1, h2, by rw [k3]; exact h3, ?_⟩
    rw [List.length_set, k2]
    have hsplit : cur.toList = cellsE E l ++ cur.toList.drop (l.length * E.k) := by rw [← h4, List.take_append_drop]
    have hl : l = l.take j ++ [l[j]] ++ l.drop (j + 1) := by simp
    have hc : cellsE E l = cellsE E (l.take j) ++ E.c l[j] ++ cellsE E (l.drop (j + 1)) := by
      conv => lhs; rw [hl]
      rw [cellsE_append, cellsE_append, cellsE_single]
    have hpl : (cellsE E (l.take j)).length = j * E.k := by rw [cellsE_length, List.length_take]; congr 1; omega
    have hs : l.set j y = l.take j ++ [y] ++ l.drop (j + 1) := by rw [List.set_eq_take_append_cons_drop, if_pos hj]; simp
    rw [hsplit, hc, List.append_assoc, ← hpl, setsL_mid _ _ _ _ (by rw [E.len, E.len]), hs, cellsE_append, cellsE_append, cellsE_single]
    rw [← List.append_assoc]
    refine List.take_left' ?_
    have hlen := cellsE_length E l
    rw [hc] at hlen
    simp only [List.length_append, E.len] at hlen ⊢
    exact hlen
/-- A row of copies of objects: the same objects, each with rows of its own. -/
def SameO (L M : List Ox) : Prop := M.map (·.o) = L.map (·.o)
def RowsIn (w : World) (M : List Ox) : Prop := ∀ x ∈ M, Fls w x.v x.o.l ∧ Fls w x.u x.o.r.l
theorem RowsIn.kept {w w' : World} {M : List Ox} (h : RowsIn w M) (hb : Below w.heap.size w w') : RowsIn w' M := fun x hx => ⟨(h x hx).1.kept hb, (h x hx).2.kept hb⟩
theorem SameO.len {L M : List Ox} (h : SameO L M) : M.length = L.length := by have := congrArg List.length h; simpa using this
theorem SameO.at {L M : List Ox} (h : SameO L M) {j : Nat} (h1 : j < M.length) (h2 : j < L.length) : M[j].o = L[j].o := by
  have := congrArg (fun l => l[j]?) h
  simpa [h1, h2] using this
end Go.Proofs.YtnachhmhjodbhaaGreatDoor
namespace Go.Proofs.YtnachhmhjodbhaaGreatDoor
open Go.RowKit Go.Sort
set_option linter.unusedVariables false
set_option linter.unusedSimpArgs false

theorem Tryz.infoOBV : (Tryz.prog.info? 32).map (fun i => (i.zero, i.size, i.bytes)) = some (some (.agg #[.string ⟨#[]⟩, .slice none 0 0, .int .i64 0, .slice none 0 0, .string ⟨#[]⟩, .int .i64 0, .int .i64 0, .int .i64 0]), 8, 112) := by kernel_rfl
theorem OwnsF.putLV {w : World} {B g : Nat} {v : Value} {l : List Fl} (h : OwnsF w B v l) (hg : g < B) (vs : List Value) (i : Nat) : OwnsF (putL w g vs i) B v l := by
  refine ⟨h.1, ?_⟩
  rcases h.2 with h0 | ⟨b, cap, cur, hv, hbg, hh, rest⟩
  · exact .inl h0
  · exact .inr ⟨b, cap, cur, hv, hbg, by rw [putL_block _ _ _ _ _ (by omega)]; exact hh, rest⟩
/-- The rows of each are its own, in blocks from B on. -/
def RowsOwn (w : World) (B : Nat) (M : List Ox) : Prop := ∀ x ∈ M, OwnsF w B x.v x.o.l ∧ OwnsF w B x.u x.o.r.l
theorem RowsOwn.kept {w w' : World} {B : Nat} {M : List Ox} (h : RowsOwn w B M) (hb : Below w.heap.size w w') : RowsOwn w' B M := fun x hx => ⟨(h x hx).1.kept hb, (h x hx).2.kept hb⟩
theorem RowsOwn.puts {w : World} {B g : Nat} {M : List Ox} (h : RowsOwn w B M) (hg : g < B) (vs : List Value) (i : Nat) : RowsOwn (putL w g vs i) B M := fun x hx => ⟨(h x hx).1.putLV hg vs i, (h x hx).2.putLV hg vs i⟩
theorem RowsOwn.in {w : World} {B : Nat} {M : List Ox} (h : RowsOwn w B M) : RowsIn w M := fun x hx => ⟨(h x hx).1.fls, (h x hx).2.fls⟩
theorem RowsOwn.snoc {w : World} {B : Nat} {M : List Ox} (h : RowsOwn w B M) {y : Ox} (h1 : OwnsF w B y.v y.o.l) (h2 : OwnsF w B y.u y.o.r.l) : RowsOwn w B (M ++ [y]) := fun x hx => by
  rcases List.mem_append.1 hx with hx | hx
  · exact h x hx
  · obtain rfl := List.mem_singleton.1 hx
    exact ⟨h1, h2⟩
end Go.Proofs.YtnachhmhjodbhaaGreatDoor
namespace Go.Proofs.YtnachhmhjodbhaaGreatDoor
open Go.RowKit Go.Sort
set_option linter.unusedVariables false
set_option linter.unusedSimpArgs false

theorem SameO.all {L M : List Ox} (h : SameO L M) {P : Ob → Prop} (hP : ∀ x ∈ L, P x.o) : ∀ x ∈ M, P x.o := fun x hx => by
  have hm : x.o ∈ M.map (·.o) := List.mem_map_of_mem hx
  rw [h] at hm
  obtain ⟨y, hy, e⟩ := List.mem_map.1 hm
  rw [← e]
  exact hP y hy
theorem SameO.small {L M : List Ox} (h : SameO L M) (hP : ∀ x ∈ L, OxSm x) : ∀ x ∈ M, OxSm x := h.all (P := fun o => OxSm ⟨o, none, 0, none, 0⟩) hP
/-- A row of objects that a function may be called with. -/
def OxsIn (w : World) (v : Value) (M : List Ox) : Prop := Sls oxE w v M ∧ ∀ y ∈ M, ObIn w y.v y.u y.o
theorem OxsIn.kept {w w' : World} {v : Value} {M : List Ox} (h : OxsIn w v M) (hb : Below w.heap.size w w') : OxsIn w' v M := ⟨h.1.kept hb, fun y hy => (h.2 y hy).kept hb⟩
theorem OxsIn.rows {w : World} {v : Value} {M : List Ox} (h : OxsIn w v M) : RowsIn w M := fun y hy => ⟨(h.2 y hy).1.1, (h.2 y hy).2.1.1.1⟩
end Go.Proofs.YtnachhmhjodbhaaGreatDoor
