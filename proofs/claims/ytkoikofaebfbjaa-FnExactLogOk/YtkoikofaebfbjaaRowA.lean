/-
  Rows of any elements: appended, and where the new row lies.
-/
import Derived.Test.YtkoikofaebfbjaaRowE
import Derived.Maps.AppendAt
namespace Go.Proofs.Ytkoikofaebfbjaa
open Go.RowKit
set_option linter.unusedVariables false

theorem wpList_rowE_at {α : Type} {E : Enc α} {P : Program} {ops : Array Oper} {rest : List Oper} {o : Oper} {a : Act} {Q : Exit → Act → World → Prop} (w : World) (hgd : o.guard = Option.none) (s x : Operand) (ts te : TypeId) (z : Value) (bytes : Nat)
    (hts : P.underlying ts = some (.slice te)) (hinfo : (P.info? te).map (fun i => (i.zero, i.size, i.bytes)) = some (some z, E.k, bytes)) (hz : z.cells.size = E.k)
    (ho : o.op = .call { callee := .builtin .append, args := #[s, x], argTypes := #[ts, ts] }) (B : Nat) (v : Value) (l : List α) (hs : a.eval s = v) (hown : OwnsE E te w B v l)
    (ad : Addr) (c : Nat) (m : List α) (hx : a.eval x = .slice (some ad) m.length c) (hcell : ∀ j u, (cellsE E m)[j]? = some u → w.cell? (ad.add j) = some u)
    (h63 : l.length + m.length ≤ maxLen) (hbytes : (l.length + m.length) * bytes ≤ 140737488355328) (hB : B ≤ w.heap.size)
    (h : ∀ v' w', OwnsE E te w' B v' (l ++ m) → w.grownBy w' v.ownBlock → (v' = .slice Option.none 0 0 ↔ v = .slice Option.none 0 0 ∧ m.length = 0) → (v'.ownBlock = v.ownBlock ∨ v'.ownBlock = some w.heap.size) → wpList P ops Q rest (a.put o.dst v') w') :
    wpList P ops Q (o :: rest) a w := by
  obtain ⟨i0, hi, hz0, hz1, hz2⟩ := info_parts hinfo
  refine wpList_append_own_at _ hgd s x ts ho B te i0 z E.k bytes hts hi hz0 hz1 hz2 hz E.pos v l.length (cellsE E l) hs hown ad m.length c (cellsE E m) hx (cellsE_length E m) hcell (cellsE_one E m) h63 hbytes hB ?_
  intro v' w' h1 h2 h3 h4
  refine h v' w' ?_ h2 h3 h4
  unfold OwnsE
  rw [cellsE_append, List.length_append]
  exact h1
/-- Texts, numbers, flags. -/
def txtE : Enc ByteArray where
  k := 1
  pos := by decide
  c := fun x => [.string x]
  len := fun _ => rfl
  one := fun x u hu => by simp at hu; subst hu; rfl
theorem txtE_c (x : ByteArray) : txtE.c x = [.string x] := rfl
/-- The row behind an append of one: in the old row's block or in a new one, in no other. -/
theorem OwnsE.moved {α : Type} {E : Enc α} {ty : TypeId} {w w' : World} {B g n c : Nat} {v : Value} {l : List α} (ho : OwnsE E ty w' B v l) (hl : 0 < l.length) (hat : v.ownBlock = (Value.slice (some ⟨g, 0, Option.none⟩) n c).ownBlock ∨ v.ownBlock = some w.heap.size) :
    ∃ g' c', v = .slice (some ⟨g', 0, Option.none⟩) l.length c' ∧ (g' = g ∨ g' = w.heap.size) ∧ B ≤ g' ∧ g' < w'.heap.size := by
  obtain ⟨a, c', rfl, h1, h2, h3⟩ := ho.form
  rcases h3 with ⟨rfl, rfl⟩ | ⟨g', rfl⟩
  · omega
  · refine ⟨g', c', rfl, ?_, ho.from g' rfl, ho.under g' rfl⟩
    simpa [Value.ownBlock] using hat
end Go.Proofs.Ytkoikofaebfbjaa
