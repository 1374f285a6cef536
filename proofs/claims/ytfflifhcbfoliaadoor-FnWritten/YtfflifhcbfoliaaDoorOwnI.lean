/-
  A row of numbers that a call makes and appends to.
-/
import Derived.Test.YtfflifhcbfoliaaDoorDt
import Derived.WalkKit
import Derived.WalkSpells
import Derived.Lib.OthersKept
namespace Go.Proofs.YtfflifhcbfoliaaDoor
open Go.RowKit Go.Sort

theorem info2 : (Tryd.prog.info? 2).map (fun i => (i.zero, i.size, i.bytes)) = some (some (.int .i64 0), 1, 8) := by kernel_rfl
/-- Numbers as cells. -/
def intsV (l : List Int) : List Value := l.map fun c => .int .i64 c
/-- The value v owns the numbers l, in a block from B on. -/
def OwnsI (w : World) (B : Nat) (v : Value) (l : List Int) : Prop := w.ownsRow B 2 1 v l.length (intsV l)
theorem OwnsI.empty (w : World) : OwnsI (w.alloc (.cells #[] 2)) w.heap.size (.slice (some ⟨w.heap.size, 0, none⟩) 0 0) [] :=
  World.ownsRow_lit w #[] 0 (Nat.le_refl _) (by unfold maxLen; decide) rfl
theorem OwnsI.alloc {w : World} {B : Nat} {v : Value} {l : List Int} (h : OwnsI w B v l) (o : Obj) : OwnsI (w.alloc o) B v l := World.ownsRow.alloc h o
theorem OwnsI.kept {w w' : World} {B : Nat} {v : Value} {l : List Int} (h : OwnsI w B v l) (hb : Below w.heap.size w w') : OwnsI w' B v l := by
  refine ⟨h.1, ?_⟩
  rcases h.2 with h0 | ⟨g, cap, cur, hv, hB, hg, rest⟩
  · exact .inl h0
  · exact .inr ⟨g, cap, cur, hv, hB, (hb.block g (Array.getElem?_eq_some_iff.1 hg).1).trans hg, rest⟩
/-- The owned block is none of another type. -/
theorem OwnsI.not {w : World} {B : Nat} {v : Value} {l : List Int} (h : OwnsI w B v l) {k : Nat} {C : Array Value} {fr : Nat × Nat} (hk : w.heap[k]? = some (.cells C 3 fr)) : some k ≠ v.ownBlock := by
  rcases h.2 with ⟨rfl, _⟩ | ⟨g, cap, cur, rfl, hB, hg, rest⟩
  · intro e; cases e
  · intro e
    have e' : k = g := Option.some.inj e
    rw [e', hg] at hk
    cases hk
theorem OwnsI.from {w : World} {B : Nat} {v : Value} {l : List Int} (h : OwnsI w B v l) : ∀ k, v.ownBlock = some k → B ≤ k := fun k hk => (World.ownsRow.lt h k hk).1
/-- One number appended. -/
theorem wpList_pushI {ops : Array Oper} {rest : List Oper} {o : Oper} {a : Act} {Q : Exit → Act → World → Prop} (w : World) (hgd : o.guard = none) (s x : Operand)
    (ho : o.op = .call { callee := .builtin .append, args := #[s, x], argTypes := #[48, 48] }) (B : Nat) (v : Value) (l : List Int) (c : Int) (hs : a.eval s = v) (hown : OwnsI w B v l)
    (hx : a.eval x = .slice (some ⟨w.heap.size, 0, none⟩) 1 1) (hlen : l.length ≤ 7) (hB : B ≤ w.heap.size)
    (h : ∀ v' w', OwnsI w' B v' (l ++ [c]) → w.grownBy w' v.ownBlock → wpList Tryd.prog ops Q rest (a.put o.dst v') w') :
    wpList Tryd.prog ops Q (o :: rest) a (w.alloc (.cells #[.int .i64 c] 2)) := by
  obtain ⟨i0, hi, hz0, hz1, hz2⟩ := info_parts info2
  refine wpList_append_own _ hgd s x 48 ho B 2 i0 (.int .i64 0) 1 8 Tryd.underlying48 hi hz0 hz1 hz2 rfl (by decide) v l.length (intsV l) hs (OwnsI.alloc hown _) ⟨w.heap.size, 0, none⟩ 1 1 [.int .i64 c] hx rfl (cell_one_new _ _ _)
    (by intro u hu; simp at hu; subst hu; rfl) (by unfold maxLen; omega) (by omega) (by simp; omega) ?_
  intro v' w' h1 h2 _
  refine h v' w' ?_ ⟨h2.os, h2.tape, h2.output, ?_, ?_⟩
  · unfold OwnsI intsV
    rw [List.map_append, List.length_append]
    exact h1
  · have := h2.size
    simp at this
    omega
  · intro k hk hne
    rw [h2.block k (by simp; omega) hne]
    exact Below.heap_alloc _ _ _ hk
theorem OwnsI.six {w : World} {B : Nat} {v : Value} {a b c d e f : Int} (h : OwnsI w B v [a, b, c, d, e, f]) : ∃ g cap, v = .slice (some ⟨g, 0, none⟩) 6 cap ∧ B ≤ g ∧ w.cell? ⟨g, 0, none⟩ = some (.int .i64 a) ∧ w.cell? ⟨g, 1, none⟩ = some (.int .i64 b) ∧ w.cell? ⟨g, 2, none⟩ = some (.int .i64 c) ∧ w.cell? ⟨g, 3, none⟩ = some (.int .i64 d) ∧ w.cell? ⟨g, 4, none⟩ = some (.int .i64 e) ∧ w.cell? ⟨g, 5, none⟩ = some (.int .i64 f) := by
  have hc := h
  rcases h.2 with ⟨_, hn⟩ | ⟨g, cap, cur, rfl, hB, hg, rest⟩
  · cases hn
  · have k := World.ownsRow.cells hc (g := g) rfl
    exact ⟨g, cap, rfl, hB, k 0 _ rfl, k 1 _ rfl, k 2 _ rfl, k 3 _ rfl, k 4 _ rfl, k 5 _ rfl⟩

/-- A date in a block that is not frozen. -/
def Fb (x : World) (g : Nat) (y m d h i s : Int) : Prop := Dt x g y m d h i s ∧ ∀ j, x.frozen? ⟨g, j, none⟩ = false
theorem Fb.below {x x' : World} {g B : Nat} {y m d h i s : Int} (k : Fb x g y m d h i s) (hb : Below B x x') (hg : g < B) : Fb x' g y m d h i s := ⟨k.1.below hb hg, fun j => (hb.frozen (p := ⟨g, j, none⟩) hg).trans (k.2 j)⟩
theorem Fb.born (w : World) (t : TypeId) : Fb (w.alloc (.cells #[.int .i64 0, .int .i64 0, .int .i64 0, .int .i64 0, .int .i64 0, .int .i64 0] t)) w.heap.size 0 0 0 0 0 0 := ⟨Dt.born w t 0 0 0 0 0 0, fun j => boxFree (Grew.refl _) j⟩
theorem Fb.month {x : World} {g : Nat} {y m d h i s : Int} (k : Fb x g y m d h i s) (m' : Int) : Fb (x.setCell ⟨g, 1, none⟩ (.int .i64 m')) g y m' d h i s := by
  obtain ⟨⟨hz, c0, c1, c2, c3, c4, c5⟩, hf⟩ := k
  refine ⟨⟨by simpa [World.setCell] using hz, ?_, ?_, ?_, ?_, ?_, ?_⟩, fun j => by rw [World.frozen?_setCell]; exact hf j⟩
  all_goals simp [go_sem, c0, c1, c2, c3, c4, c5]
/-- The month as far as names were looked at. -/
def mcur (t : ByteArray) (k : Int) : Int := if monV t < k then monV t else 0
theorem mcur_one (t : ByteArray) : mcur t 1 = 0 := by
  have := monV_bd t
  unfold mcur; split <;> omega
theorem mcur_yes {t : ByteArray} {k : Int} (h : monV t = k) : mcur t (k + 1) = k := by unfold mcur; rw [if_pos (by omega)]; exact h
theorem mcur_no {t : ByteArray} {k : Int} (h : monV t ≠ k) : mcur t (k + 1) = mcur t k := by unfold mcur; by_cases e : monV t < k; (· rw [if_pos e, if_pos (by omega)]); rw [if_neg e, if_neg (by omega)]
theorem mcur_all (t : ByteArray) : mcur t 13 = monV t := by
  have := monV_bd t
  unfold mcur; rw [if_pos (by omega)]
end Go.Proofs.YtfflifhcbfoliaaDoor
