/-
  A row of bytes that a call makes and appends to, one byte at a time; and the text that such a row is turned into.
  Some bytes appended to a row that a call owns, as one step of a region that draws.
  Fields in memory: slices of fields that are read, and slices of fields that a call owns.
-/
import Derived.Test.YtlngleinegkoeaaGreatRows
import Derived.Test.YtlngleinegkoeaaGreatT05
import Derived.WalkKit
import Derived.WalkSpells
import Derived.Lib.OthersKept
import Derived.Deep.RegionLaw
import Derived.Deep.QuietTactic
import Derived.BigQuiet
namespace Go.Proofs.YtlngleinegkoeaaGreat
open Go.RowKit

/-- Bytes as cells. -/
def bytesV (l : List UInt8) : List Value := l.map fun c => .int .u8 (c.toNat : Int)
/-- The value v owns the bytes l, in a block from B on. -/
def OwnsB (w : World) (B : Nat) (v : Value) (l : List UInt8) : Prop := w.ownsRow B 5 1 v l.length (bytesV l)

theorem OwnsB.alloc {w : World} {B : Nat} {v : Value} {l : List UInt8} (h : OwnsB w B v l) (o : Obj) : OwnsB (w.alloc o) B v l := World.ownsRow.alloc h o
theorem OwnsB.drew {w : World} {B : Nat} {v : Value} {l : List UInt8} (h : OwnsB w B v l) : OwnsB w.drew B v l := h
theorem OwnsB.nil (w : World) (B : Nat) : OwnsB w B (.slice none 0 0) [] := World.ownsRow_nil w B 5 1
theorem OwnsB.one (w : World) (c : UInt8) : OwnsB (w.alloc (.cells #[.int .u8 (c.toNat : Int)] 5)) w.heap.size (.slice (some ⟨w.heap.size, 0, none⟩) 1 1) [c] :=
  World.ownsRow_lit w #[.int .u8 (c.toNat : Int)] 1 (Nat.le_refl _) (by unfold maxLen; decide) rfl
theorem OwnsB.from {w : World} {B : Nat} {v : Value} {l : List UInt8} (h : OwnsB w B v l) : ∀ k, v.ownBlock = some k → B ≤ k := fun k hk => (World.ownsRow.lt h k hk).1
theorem OwnsB.low {w : World} {B B' : Nat} {v : Value} {l : List UInt8} (h : OwnsB w B v l) (hB : B' ≤ B) : OwnsB w B' v l := by
  refine ⟨h.1, ?_⟩
  rcases h.2 with h0 | ⟨g, cap, cur, hv, hb, hg, rest⟩
  · exact .inl h0
  · exact .inr ⟨g, cap, cur, hv, by omega, hg, rest⟩
/-- What was owned before is owned behind a step that keeps all blocks below n, if its own block lies there. -/
theorem OwnsB.kept {w w' : World} {B : Nat} {v : Value} {l : List UInt8} (h : OwnsB w B v l) (hb : Below w.heap.size w w') : OwnsB w' B v l := by
  refine ⟨h.1, ?_⟩
  rcases h.2 with h0 | ⟨g, cap, cur, hv, hbg, hg, rest⟩
  · exact .inl h0
  · exact .inr ⟨g, cap, cur, hv, hbg, by rw [hb.block g (Array.getElem?_eq_some_iff.1 hg).1]; exact hg, rest⟩

/-- The owned bytes as a text. -/
theorem OwnsB.text {w : World} {B : Nat} {v : Value} {l : List UInt8} (h : OwnsB w B v l) : (convert 22 9 v).run Tryz.prog w = .ok (.string ⟨l.toArray⟩) w := by
  rcases h.2 with ⟨rfl, hn⟩ | ⟨g, cap, cur, rfl, hb, hg, rest⟩
  · have e : l = [] := List.eq_nil_of_length_eq_zero hn
    subst e
    rw [run_convert_bytes_string w 22 9 5 none 0 0 Tryz.underlying22 Tryz.underlying5 Tryz.underlying9]
    rfl
  · refine run_convert_bytes_back (P := Tryz.prog) w 22 9 5 ⟨g, 0, none⟩ cap l Tryz.underlying22 Tryz.underlying5 Tryz.underlying9 (fun j hj => ?_)
    refine World.ownsRow.cells h (g := g) rfl j _ ?_
    simp [bytesV, hj]

end Go.Proofs.YtlngleinegkoeaaGreat
namespace Go.Proofs.YtlngleinegkoeaaGreat
open Go.RowKit

theorem OwnsB.empty (w : World) : OwnsB (w.alloc (.cells #[] 5)) w.heap.size (.slice (some ⟨w.heap.size, 0, none⟩) 0 0) [] :=
  World.ownsRow_lit w #[] 0 (Nat.le_refl _) (by unfold maxLen; decide) rfl
theorem addr_add (g o j : Nat) : (⟨g, o, none⟩ : Addr).add j = ⟨g, o + j, none⟩ := by
  unfold Addr.add
  by_cases e : j = 0
  · subst e; simp
  · simp [e]
end Go.Proofs.YtlngleinegkoeaaGreat
namespace Go.Proofs.YtlngleinegkoeaaGreat
open Go.RowKit

/-- A field: its name and its value. -/
abbrev Fl := ByteArray × ByteArray
/-- The slice v reads as the fields l. -/
def Fls (w : World) (v : Value) (l : List Fl) : Prop :=
  ∃ a cap, v = .slice a l.length cap ∧ l.length ≤ cap ∧ cap ≤ maxLen ∧ (0 < l.length → ∃ g o, a = some ⟨g, o, none⟩ ∧ g < w.heap.size ∧
    ∀ j (hj : j < l.length), w.cell? ⟨g, o + j * 2, none⟩ = some (.string l[j].1) ∧ w.cell? ⟨g, o + j * 2 + 1, none⟩ = some (.string l[j].2))
theorem Fls.kept {w w' : World} {v : Value} {l : List Fl} (h : Fls w v l) (hb : Below w.heap.size w w') : Fls w' v l := by
  obtain ⟨a, cap, hv, h1, h2, h3⟩ := h
  refine ⟨a, cap, hv, h1, h2, fun h0 => ?_⟩
  obtain ⟨g, o, ha, hg, hc⟩ := h3 h0
  exact ⟨g, o, ha, Nat.lt_of_lt_of_le hg hb.size, fun j hj => ⟨(hb.cell (p := ⟨g, o + j * 2, none⟩) hg).trans (hc j hj).1, (hb.cell (p := ⟨g, o + j * 2 + 1, none⟩) hg).trans (hc j hj).2⟩⟩
theorem Fls.drewN {w : World} {v : Value} {l : List Fl} (h : Fls w v l) (n : Nat) : Fls (w.drewN n) v l := h

/-! ### Slices of fields that a call owns -/
def szF (f : Fl) : Nat := f.1.size + f.2.size
def szL (l : List Fl) : Nat := (l.map szF).sum
end Go.Proofs.YtlngleinegkoeaaGreat
