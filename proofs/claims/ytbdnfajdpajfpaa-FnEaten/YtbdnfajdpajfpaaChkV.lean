/-
  A state of chunks by value in a block of four cells; what all bytes of a text come to.
-/
import Derived.Test.YtbdnfajdpajfpaaChkP
import Derived.Test.YtbdnfajdpajfpaaOwn
namespace Go.Proofs.Ytbdnfajdpajfpaa
open Go.RowKit

/-- What EatAll answers. -/
def zeroC : Ck := ⟨0, 0, ⟨#[]⟩, ⟨#[]⟩⟩
def allC (c : Ck) (l : List UInt8) : Ck := if okC c = true then fin c l else zeroC
def allN (c : Ck) (l : List UInt8) : Nat := if okC c = true then cnt c l else 0
theorem allC_yes {c : Ck} (h : okC c = true) (l : List UInt8) : allC c l = fin c l := by unfold allC; rw [if_pos h]
theorem allN_yes {c : Ck} (h : okC c = true) (l : List UInt8) : allN c l = cnt c l := by unfold allN; rw [if_pos h]
theorem allC_no {c : Ck} (h : okC c = false) (l : List UInt8) : allC c l = zeroC := by unfold allC; rw [h]; rfl
theorem allN_no {c : Ck} (h : okC c = false) (l : List UInt8) : allN c l = 0 := by unfold allN; rw [h]; rfl
/-- The four cells of a state by value in block b. -/
structure Four (w : World) (b : Nat) (c : Ck) : Prop where
  c0 : w.cell? ⟨b, 0, none⟩ = some (.int .i64 c.st)
  c1 : w.cell? ⟨b, 1, none⟩ = some (.int .i64 c.lf)
  c2 : w.cell? ⟨b, 2, none⟩ = some (.string c.dg)
  c3 : w.cell? ⟨b, 3, none⟩ = some (.string c.bd)
  fz : ∀ k, w.frozen? ⟨b, k, none⟩ = false
  hi : b < w.heap.size
theorem Four.new (w : World) (c : Ck) : Four (w.alloc (.cells #[.int .i64 c.st, .int .i64 c.lf, .string c.dg, .string c.bd] 25)) w.heap.size c where
  c0 := World.cell?_alloc_mark _ _ _ _ _
  c1 := World.cell?_alloc_mark _ _ _ _ _
  c2 := World.cell?_alloc_mark _ _ _ _ _
  c3 := World.cell?_alloc_mark _ _ _ _ _
  fz := fun k => by rw [World.frozen?_alloc_mark]; simp
  hi := by simp
theorem Four.kept {w w' : World} {n b : Nat} {c : Ck} (h : Four w b c) (hb : Below n w w') (hn : b < n) : Four w' b c := by
  have e : w'.heap[b]? = w.heap[b]? := hb.block b hn
  have k : ∀ k, w'.cell? ⟨b, k, none⟩ = w.cell? ⟨b, k, none⟩ := fun k => World.cell?_of_block (a := ⟨b, k, none⟩) e
  exact ⟨(k 0).trans h.c0, (k 1).trans h.c1, (k 2).trans h.c2, (k 3).trans h.c3, fun j => (World.frozen?_of_block (a := ⟨b, j, none⟩) e).trans (h.fz j), Nat.lt_of_lt_of_le h.hi hb.size⟩
theorem Four.alloc {w : World} {b : Nat} {c : Ck} (h : Four w b c) (o : Obj) : Four (w.alloc o) b c := h.kept (n := w.heap.size) ((Below.refl _ w).alloc (Nat.le_refl _) _) h.hi

theorem Four.put {w : World} {b : Nat} {c : Ck} (h : Four w b c) (d : Ck) : Four ((((w.setCell ⟨b, 0, none⟩ (.int .i64 d.st)).setCell ⟨b, 1, none⟩ (.int .i64 d.lf)).setCell ⟨b, 2, none⟩ (.string d.dg)).setCell ⟨b, 3, none⟩ (.string d.bd)) b d where
  c0 := by rw [World.cell?_setCell_other _ _ _ _ (by simp), World.cell?_setCell_other _ _ _ _ (by simp), World.cell?_setCell_other _ _ _ _ (by simp)]; exact World.cell?_setCell_same _ _ _ h.c0
  c1 := by rw [World.cell?_setCell_other _ _ _ _ (by simp), World.cell?_setCell_other _ _ _ _ (by simp)]; exact World.cell?_setCell_same _ _ _ (by rw [World.cell?_setCell_other _ _ _ _ (by simp)]; exact h.c1)
  c2 := by rw [World.cell?_setCell_other _ _ _ _ (by simp)]; exact World.cell?_setCell_same _ _ _ (by rw [World.cell?_setCell_other _ _ _ _ (by simp), World.cell?_setCell_other _ _ _ _ (by simp)]; exact h.c2)
  c3 := World.cell?_setCell_same _ _ _ (by rw [World.cell?_setCell_other _ _ _ _ (by simp), World.cell?_setCell_other _ _ _ _ (by simp), World.cell?_setCell_other _ _ _ _ (by simp)]; exact h.c3)
  fz := fun k => by rw [World.frozen?_setCell, World.frozen?_setCell, World.frozen?_setCell, World.frozen?_setCell]; exact h.fz k
  hi := by rw [World.size_setCell, World.size_setCell, World.size_setCell, World.size_setCell]; exact h.hi

/-- One byte as a text. -/
theorem byte_text5 (w : World) (n : Int) (c : UInt8) (h : n = (c.toNat : Int)) : (convert 22 9 (.slice (some ⟨w.heap.size, 0, none⟩) 1 1)).run Try.prog (w.alloc (.cells #[.int .u8 n] 5)) = .ok (.string ⟨#[c]⟩) (w.alloc (.cells #[.int .u8 n] 5)) := by
  subst h
  exact OwnsB.text (OwnsB.one w c)
end Go.Proofs.Ytbdnfajdpajfpaa
