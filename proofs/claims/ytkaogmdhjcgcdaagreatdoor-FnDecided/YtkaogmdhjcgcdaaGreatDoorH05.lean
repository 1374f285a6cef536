/-
  A row of bytes that a call makes and appends to, one byte at a time; and the text that such a row is turned into.
  Some bytes appended to a row that a call owns, as one step of a region that draws.
  Fields in memory: slices of fields that are read, and slices of fields that a call owns.
  The contracts of Trimmed, the specification's and the program's: both answer the text without the blanks at its ends.
  The contracts of VisibleOk, the specification's and the program's: both answer whether the text is visible.
  Plain facts on items: the parts of a text between commas at which none is open, each trimmed, none empty; and slices of texts that a call owns.
  The contracts of Lower, the specification's and the program's: both answer the text with each capital made small.
-/
import Derived.Test.YtkaogmdhjcgcdaaGreatDoorRows
import Derived.Test.YtkaogmdhjcgcdaaGreatDoorH04
import Derived.WalkKit
import Derived.WalkSpells
import Derived.Lib.OthersKept
import Derived.Deep.RegionLaw
import Derived.Deep.QuietTactic
import Derived.BigQuiet
import Derived.Test.YtkaogmdhjcgcdaaGreatDoorShelfE
import Derived.Laws.Strings
import Derived.Test.YtkaogmdhjcgcdaaGreatDoorH03
namespace Go.Proofs.YtkaogmdhjcgcdaaGreatDoor
open Go.RowKit

theorem Tryz.info5 : (Tryz.prog.info? 5).map (fun i => (i.zero, i.size, i.bytes)) = some (some (.int .u8 0), 1, 1) := by kernel_rfl

/-- Bytes as cells. -/
def bytesV (l : List UInt8) : List Value := l.map fun c => .int .u8 (c.toNat : Int)
theorem bytesV_snoc (l : List UInt8) (c : UInt8) : bytesV (l ++ [c]) = bytesV l ++ [.int .u8 (c.toNat : Int)] := by simp [bytesV]
/-- The value v owns the bytes l, in a block from B on. -/
def OwnsB (w : World) (B : Nat) (v : Value) (l : List UInt8) : Prop := w.ownsRow B 5 1 v l.length (bytesV l)

theorem OwnsB.alloc {w : World} {B : Nat} {v : Value} {l : List UInt8} (h : OwnsB w B v l) (o : Obj) : OwnsB (w.alloc o) B v l := World.ownsRow.alloc h o
theorem OwnsB.drew {w : World} {B : Nat} {v : Value} {l : List UInt8} (h : OwnsB w B v l) : OwnsB w.drew B v l := h
theorem OwnsB.nil (w : World) (B : Nat) : OwnsB w B (.slice none 0 0) [] := World.ownsRow_nil w B 5 1
theorem OwnsB.one (w : World) (c : UInt8) : OwnsB (w.alloc (.cells #[.int .u8 (c.toNat : Int)] 5)) w.heap.size (.slice (some ⟨w.heap.size, 0, none⟩) 1 1) [c] :=
  World.ownsRow_lit w #[.int .u8 (c.toNat : Int)] 1 (Nat.le_refl _) (by unfold maxLen; decide) rfl
theorem OwnsB.from {w : World} {B : Nat} {v : Value} {l : List UInt8} (h : OwnsB w B v l) : ∀ k, v.ownBlock = some k → B ≤ k := fun k hk => (World.ownsRow.lt h k hk).1
theorem OwnsB.low {w : World} {B B' : Nat} {v : Value} {l : List UInt8} (h : OwnsB w B v l) (hB : B' ≤ B) : OwnsB w B' v l := by
  refine ⟨h.1, ?_⟩
  rcases h.2 with h0 | ⟨g, cap, cur, hv, hb, hg, rest⟩
  · exact .inl h0
  · exact .inr ⟨g, cap, cur, hv, by omega, hg, rest⟩
/-- What was owned before is owned behind a step that keeps all blocks below n, if its own block lies there. -/
theorem OwnsB.kept {w w' : World} {B : Nat} {v : Value} {l : List UInt8} (h : OwnsB w B v l) (hb : Below w.heap.size w w') : OwnsB w' B v l := by
  refine ⟨h.1, ?_⟩
  rcases h.2 with h0 | ⟨g, cap, cur, hv, hbg, hg, rest⟩
  · exact .inl h0
  · exact .inr ⟨g, cap, cur, hv, hbg, by rw [hb.block g (Array.getElem?_eq_some_iff.1 hg).1]; exact hg, rest⟩

/-- The owned bytes as a text. -/
theorem OwnsB.text {w : World} {B : Nat} {v : Value} {l : List UInt8} (h : OwnsB w B v l) : (convert 22 9 v).run Tryz.prog w = .ok (.string ⟨l.toArray⟩) w := by
  rcases h.2 with ⟨rfl, hn⟩ | ⟨g, cap, cur, rfl, hb, hg, rest⟩
  · have e : l = [] := List.eq_nil_of_length_eq_zero hn
    subst e
    rw [run_convert_bytes_string w 22 9 5 none 0 0 Tryz.underlying22 Tryz.underlying5 Tryz.underlying9]
    rfl
  · refine run_convert_bytes_back (P := Tryz.prog) w 22 9 5 ⟨g, 0, none⟩ cap l Tryz.underlying22 Tryz.underlying5 Tryz.underlying9 (fun j hj => ?_)
    refine World.ownsRow.cells h (g := g) rfl j _ ?_
    simp [bytesV, hj]

/-- One byte appended. -/
theorem wpList_push {ops : Array Oper} {rest : List Oper} {o : Oper} {a : Act} {Q : Exit → Act → World → Prop} (w : World) (hgd : o.guard = none) (s x : Operand)
    (ho : o.op = .call { callee := .builtin .append, args := #[s, x], argTypes := #[22, 22] }) (B : Nat) (v : Value) (l : List UInt8) (n : Int) (c : UInt8) (hc : n = (c.toNat : Int)) (hs : a.eval s = v) (hown : OwnsB w B v l)
    (hx : a.eval x = .slice (some ⟨w.heap.size, 0, none⟩) 1 1) (hlen : l.length ≤ 70000000000000) (hB : B ≤ w.heap.size)
    (h : ∀ v' w', OwnsB w' B v' (l ++ [c]) → w.grownBy w' v.ownBlock → wpList Tryz.prog ops Q rest (a.put o.dst v') w') :
    wpList Tryz.prog ops Q (o :: rest) a (w.alloc (.cells #[.int .u8 n] 5)) := by
  subst hc
  obtain ⟨i0, hi, hz0, hz1, hz2⟩ := info_parts Tryz.info5
  refine wpList_append_own _ hgd s x 22 ho B 5 i0 (.int .u8 0) 1 1 Tryz.underlying22 hi hz0 hz1 hz2 rfl (by decide) v l.length (bytesV l) hs (OwnsB.alloc hown _) ⟨w.heap.size, 0, none⟩ 1 1 [.int .u8 (c.toNat : Int)] hx rfl (cell_one_new _ _ _)
    (by intro u hu; simp at hu; subst hu; rfl) (by unfold maxLen; omega) (by omega) (by simp; omega) ?_
  intro v' w' h1 h2 _
  refine h v' w' ?_ ⟨h2.os, h2.tape, h2.output, ?_, ?_⟩
  · unfold OwnsB
    rw [bytesV_snoc, List.length_append]
    exact h1
  · have := h2.size
    simp at this
    omega
  · intro k hk hne
    rw [h2.block k (by simp; omega) hne]
    exact Below.heap_alloc _ _ _ hk
end Go.Proofs.YtkaogmdhjcgcdaaGreatDoor
namespace Go.Proofs.YtkaogmdhjcgcdaaGreatDoor
open Go.RowKit

theorem OwnsB.empty (w : World) : OwnsB (w.alloc (.cells #[] 5)) w.heap.size (.slice (some ⟨w.heap.size, 0, none⟩) 0 0) [] :=
  World.ownsRow_lit w #[] 0 (Nat.le_refl _) (by unfold maxLen; decide) rfl
theorem addr_add (g o j : Nat) : (⟨g, o, none⟩ : Addr).add j = ⟨g, o + j, none⟩ := by
  unfold Addr.add
  by_cases e : j = 0
  · subst e; simp
  · simp [e]
end Go.Proofs.YtkaogmdhjcgcdaaGreatDoor
namespace Go.Proofs.YtkaogmdhjcgcdaaGreatDoor
open Go.RowKit

/-- A field: its name and its value. -/
abbrev Fl := ByteArray × ByteArray
theorem Tryz.infoF : (Tryz.prog.info? 105).map (fun i => (i.zero, i.size, i.bytes)) = some (some (.agg #[.string ⟨#[]⟩, .string ⟨#[]⟩]), 2, 32) := by kernel_rfl

/-- The slice v reads as the fields l. -/
def Fls (w : World) (v : Value) (l : List Fl) : Prop :=
  ∃ a cap, v = .slice a l.length cap ∧ l.length ≤ cap ∧ cap ≤ maxLen ∧ (0 < l.length → ∃ g o, a = some ⟨g, o, none⟩ ∧ g < w.heap.size ∧
    ∀ j (hj : j < l.length), w.cell? ⟨g, o + j * 2, none⟩ = some (.string l[j].1) ∧ w.cell? ⟨g, o + j * 2 + 1, none⟩ = some (.string l[j].2))
theorem Fls.kept {w w' : World} {v : Value} {l : List Fl} (h : Fls w v l) (hb : Below w.heap.size w w') : Fls w' v l := by
  obtain ⟨a, cap, hv, h1, h2, h3⟩ := h
  refine ⟨a, cap, hv, h1, h2, fun h0 => ?_⟩
  obtain ⟨g, o, ha, hg, hc⟩ := h3 h0
  exact ⟨g, o, ha, Nat.lt_of_lt_of_le hg hb.size, fun j hj => ⟨(hb.cell (p := ⟨g, o + j * 2, none⟩) hg).trans (hc j hj).1, (hb.cell (p := ⟨g, o + j * 2 + 1, none⟩) hg).trans (hc j hj).2⟩⟩
theorem Fls.drewN {w : World} {v : Value} {l : List Fl} (h : Fls w v l) (n : Nat) : Fls (w.drewN n) v l := h

/-! ### Slices of fields that a call owns -/
def cellsF (l : List Fl) : List Value := l.flatMap fun f => [.string f.1, .string f.2]
theorem cellsF_append (a b : List Fl) : cellsF (a ++ b) = cellsF a ++ cellsF b := by simp [cellsF]
theorem cellsF_length (l : List Fl) : (cellsF l).length = l.length * 2 := by
  induction l with
  | nil => rfl
  | cons f l ih => simp [cellsF] at ih ⊢; omega
theorem cellsF_at (l : List Fl) : ∀ j (hj : j < l.length), (cellsF l)[j * 2]? = some (.string l[j].1) ∧ (cellsF l)[j * 2 + 1]? = some (.string l[j].2) := by
  induction l with
  | nil => intro j hj; simp at hj
  | cons f l ih =>
    intro j hj
    have e : cellsF (f :: l) = .string f.1 :: .string f.2 :: cellsF l := rfl
    cases j with
    | zero => rw [e]; exact ⟨rfl, rfl⟩
    | succ j =>
      have := ih j (by simpa using hj)
      rw [e, show (j + 1) * 2 = j * 2 + 1 + 1 from by omega]
      exact this
theorem cellsF_one (l : List Fl) : ∀ u ∈ cellsF l, u.oneCell' = true := by
  intro u hu
  obtain ⟨f, _, h⟩ := List.mem_flatMap.1 hu
  simp at h
  rcases h with rfl | rfl <;> rfl
/-- The value v owns the fields l, in a block from B on. -/
def OwnsF (w : World) (B : Nat) (v : Value) (l : List Fl) : Prop := w.ownsRow B 105 2 v l.length (cellsF l)
theorem OwnsF.born (w : World) : OwnsF (w.alloc (.cells #[] 105)) w.heap.size (.slice (some ⟨w.heap.size, 0, none⟩) 0 0) [] :=
  World.ownsRow_lit w #[] 0 (Nat.le_refl _) (by unfold maxLen; decide) rfl
theorem OwnsF.alloc {w : World} {B : Nat} {v : Value} {l : List Fl} (h : OwnsF w B v l) (o : Obj) : OwnsF (w.alloc o) B v l := World.ownsRow.alloc h o
theorem OwnsF.drew {w : World} {B : Nat} {v : Value} {l : List Fl} (h : OwnsF w B v l) : OwnsF w.drew B v l := h
theorem OwnsF.drewN {w : World} {B : Nat} {v : Value} {l : List Fl} (h : OwnsF w B v l) (n : Nat) : OwnsF (w.drewN n) B v l := h
theorem OwnsF.kept {w w' : World} {B : Nat} {v : Value} {l : List Fl} (h : OwnsF w B v l) (hb : Below w.heap.size w w') : OwnsF w' B v l := by
  refine ⟨h.1, ?_⟩
  rcases h.2 with h0 | ⟨g, cap, cur, hv, hbg, hg, rest⟩
  · exact .inl h0
  · exact .inr ⟨g, cap, cur, hv, hbg, by rw [hb.block g (Array.getElem?_eq_some_iff.1 hg).1]; exact hg, rest⟩
theorem OwnsF.from {w : World} {B : Nat} {v : Value} {l : List Fl} (h : OwnsF w B v l) : ∀ k, v.ownBlock = some k → B ≤ k := fun k hk => (World.ownsRow.lt h k hk).1
theorem OwnsF.under {w : World} {B : Nat} {v : Value} {l : List Fl} (h : OwnsF w B v l) : ∀ k, v.ownBlock = some k → k < w.heap.size := fun k hk => (World.ownsRow.lt h k hk).2
theorem OwnsF.low {w : World} {B B' : Nat} {v : Value} {l : List Fl} (h : OwnsF w B v l) (hB : B' ≤ B) : OwnsF w B' v l := by
  refine ⟨h.1, ?_⟩
  rcases h.2 with h0 | ⟨g, cap, cur, hv, hb, hg, rest⟩
  · exact .inl h0
  · exact .inr ⟨g, cap, cur, hv, by omega, hg, rest⟩
theorem OwnsF.fls {w : World} {B : Nat} {v : Value} {l : List Fl} (h : OwnsF w B v l) : Fls w v l := by
  have hh := h
  rcases h.2 with ⟨rfl, h0⟩ | ⟨g, cap, cur, rfl, hb, hg, hc, hm, rest⟩
  · exact ⟨none, 0, by rw [h0], by omega, Nat.zero_le _, fun h1 => by omega⟩
  · refine ⟨some ⟨g, 0, none⟩, cap, rfl, hc, hm, fun _ => ⟨g, 0, rfl, (Array.getElem?_eq_some_iff.1 hg).1, fun j hj => ?_⟩⟩
    obtain ⟨c1, c2⟩ := cellsF_at l j hj
    have k1 := World.ownsRow.cells hh (g := g) rfl (j * 2) _ c1
    have k2 := World.ownsRow.cells hh (g := g) rfl (j * 2 + 1) _ c2
    rw [addr_add] at k1 k2
    exact ⟨k1, k2⟩
theorem OwnsF.form {w : World} {B : Nat} {v : Value} {l : List Fl} (h : OwnsF w B v l) : ∃ a cap, v = .slice a l.length cap ∧ l.length ≤ cap ∧ cap ≤ maxLen := by
  rcases h.2 with ⟨rfl, h0⟩ | ⟨g, cap, cur, rfl, hb, hg, hc, hm, rest⟩
  · exact ⟨none, 0, by rw [h0], by omega, Nat.zero_le _⟩
  · exact ⟨_, cap, rfl, hc, hm⟩
theorem OwnsF.at {w : World} {B g n cap : Nat} {l : List Fl} (h : OwnsF w B (.slice (some ⟨g, 0, none⟩) n cap) l) (_hn : n = l.length) (j : Nat) (hj : j < l.length) : w.cell? ⟨g, j * 2, none⟩ = some (.string l[j].1) ∧ w.cell? ⟨g, j * 2 + 1, none⟩ = some (.string l[j].2) := by
  obtain ⟨c1, c2⟩ := cellsF_at l j hj
  have k1 := World.ownsRow.cells h (g := g) rfl (j * 2) _ c1
  have k2 := World.ownsRow.cells h (g := g) rfl (j * 2 + 1) _ c2
  rw [addr_add, Nat.zero_add] at k1 k2
  exact ⟨k1, k2⟩
/-- One field appended. -/
theorem wpList_pushF {ops : Array Oper} {rest : List Oper} {o : Oper} {a : Act} {Q : Exit → Act → World → Prop} (w : World) (hgd : o.guard = none) (s x : Operand)
    (ho : o.op = .call { callee := .builtin .append, args := #[s, x], argTypes := #[24, 24] }) (B : Nat) (v : Value) (l : List Fl) (f : Fl) (hs : a.eval s = v) (hown : OwnsF w B v l)
    (hx : a.eval x = .slice (some ⟨w.heap.size, 0, none⟩) 1 1) (hlen : l.length ≤ 1000000000000) (hB : B ≤ w.heap.size)
    (h : ∀ v' w', OwnsF w' B v' (l ++ [f]) → w.grownBy w' v.ownBlock → wpList Tryz.prog ops Q rest (a.put o.dst v') w') :
    wpList Tryz.prog ops Q (o :: rest) a (w.alloc (.cells #[.string f.1, .string f.2] 105)) := by
  obtain ⟨i0, hi, hz0, hz1, hz2⟩ := info_parts Tryz.infoF
  refine wpList_append_own _ hgd s x 24 ho B 105 i0 (.agg #[.string ⟨#[]⟩, .string ⟨#[]⟩]) 2 32 Tryz.underlying24 hi hz0 hz1 hz2 rfl (by decide) v l.length (cellsF l) hs (OwnsF.alloc hown _) ⟨w.heap.size, 0, none⟩ 1 1 [.string f.1, .string f.2] hx rfl ?_
    (by intro u hu; simp at hu; rcases hu with rfl | rfl <;> rfl) (by unfold maxLen; omega) (by omega) (by simp; omega) ?_
  · intro j u hu
    rw [addr_add, Nat.zero_add, World.cell?_alloc_mark]
    simpa using hu
  intro v' w' h1 h2 h3
  refine h v' w' ?_ ⟨h2.os, h2.tape, h2.output, ?_, ?_⟩
  · unfold OwnsF
    rw [cellsF_append, List.length_append]
    exact h1
  · have := h2.size
    simp at this
    omega
  · intro k hk hne
    rw [h2.block k (by simp; omega) hne]
    exact Below.heap_alloc _ _ _ hk
/-- A text stored into an owned slice. -/
theorem cellsF_set1 (l : List Fl) (c : ByteArray) : ∀ k (hk : k < l.length), (cellsF l).set (k * 2) (.string c) = cellsF (l.set k (c, l[k].2)) := by
  induction l with
  | nil => intro k hk; simp at hk
  | cons f l ih =>
    intro k hk
    have e : ∀ (f : Fl) (l : List Fl), cellsF (f :: l) = .string f.1 :: .string f.2 :: cellsF l := fun _ _ => rfl
    cases k with
    | zero => simp [e]
    | succ k =>
      have := ih k (by simpa using hk)
      rw [e, show (k + 1) * 2 = k * 2 + 1 + 1 from by omega]
      simp only [List.set_cons_succ, List.getElem_cons_succ, e]
      rw [this]
theorem cellsF_set2 (l : List Fl) (c : ByteArray) : ∀ k (hk : k < l.length), (cellsF l).set (k * 2 + 1) (.string c) = cellsF (l.set k (l[k].1, c)) := by
  induction l with
  | nil => intro k hk; simp at hk
  | cons f l ih =>
    intro k hk
    have e : ∀ (f : Fl) (l : List Fl), cellsF (f :: l) = .string f.1 :: .string f.2 :: cellsF l := fun _ _ => rfl
    cases k with
    | zero => simp [e]
    | succ k =>
      have := ih k (by simpa using hk)
      rw [e, show (k + 1) * 2 + 1 = k * 2 + 1 + 1 + 1 from by omega]
      simp only [List.set_cons_succ, List.getElem_cons_succ, e]
      rw [this]
theorem OwnsF.put1 {w : World} {B g cap n : Nat} {l : List Fl} (hn : n = l.length) (h : OwnsF w B (.slice (some ⟨g, 0, none⟩) n cap) l) {k : Nat} (hk : k < l.length) (c : ByteArray) : OwnsF (w.setCell ⟨g, k * 2, none⟩ (.string c)) B (.slice (some ⟨g, 0, none⟩) n cap) (l.set k (c, l[k].2)) := by
  subst hn
  have h2 := (World.ownsRow.stored h (k * 2) (.string c)).1
  unfold OwnsF
  rw [List.length_set, ← cellsF_set1 l c k hk]
  exact h2
theorem OwnsF.put2 {w : World} {B g cap n : Nat} {l : List Fl} (hn : n = l.length) (h : OwnsF w B (.slice (some ⟨g, 0, none⟩) n cap) l) {k : Nat} (hk : k < l.length) (c : ByteArray) : OwnsF (w.setCell ⟨g, k * 2 + 1, none⟩ (.string c)) B (.slice (some ⟨g, 0, none⟩) n cap) (l.set k (l[k].1, c)) := by
  subst hn
  have h2 := (World.ownsRow.stored h (k * 2 + 1) (.string c)).1
  unfold OwnsF
  rw [List.length_set, ← cellsF_set2 l c k hk]
  exact h2
/-! ### How large -/
def szF (f : Fl) : Nat := f.1.size + f.2.size
def szL (l : List Fl) : Nat := (l.map szF).sum
theorem szL_append (a b : List Fl) : szL (a ++ b) = szL a + szL b := by simp [szL]
theorem szL_next {l : List Fl} {k : Nat} (hk : k < l.length) : szL (l.take (k + 1)) = szL (l.take k) + (l[k].1.size + l[k].2.size) := by
  rw [List.take_succ_eq_append_getElem hk, szL_append]; simp [szL, szF]
theorem szL_take (l : List Fl) (k : Nat) : szL (l.take k) ≤ szL l := by
  have := szL_append (l.take k) (l.drop k)
  rw [List.take_append_drop] at this
  omega
theorem szL_at {l : List Fl} {k : Nat} (hk : k < l.length) : l[k].1.size + l[k].2.size ≤ szL l := by
  have h1 := szL_next hk
  have h2 := szL_take l (k + 1)
  omega

end Go.Proofs.YtkaogmdhjcgcdaaGreatDoor
namespace Go.Proofs.YtkaogmdhjcgcdaaGreatDoor
open Go.RowKit

/-- A blank or a tab. -/
def blank (c : UInt8) : Bool := [32, 9].contains c
def ltr (l : List UInt8) : List UInt8 := l.dropWhile blank
def rtr (l : List UInt8) : List UInt8 := (l.reverse.dropWhile blank).reverse
theorem ltr_yes {c : UInt8} (l : List UInt8) (h : blank c = true) : ltr (c :: l) = ltr l := by simp [ltr, h]
theorem ltr_no {c : UInt8} (l : List UInt8) (h : blank c = false) : ltr (c :: l) = c :: l := by simp [ltr, h]
theorem rtr_yes {c : UInt8} (l : List UInt8) (h : blank c = true) : rtr (l ++ [c]) = rtr l := by simp [rtr, h]
theorem rtr_no {c : UInt8} (l : List UInt8) (h : blank c = false) : rtr (l ++ [c]) = l ++ [c] := by simp [rtr, h]
theorem rtr_cons (c : UInt8) (l : List UInt8) : rtr (c :: l) = if rtr l = [] then (if blank c = true then [] else [c]) else c :: rtr l := by
  unfold rtr
  rw [List.reverse_cons, List.dropWhile_append]
  by_cases h : (l.reverse.dropWhile blank) = []
  · rw [h]
    cases hb : blank c <;> simp [hb]
  · have h2 : (l.reverse.dropWhile blank).isEmpty = false := by simpa using h
    rw [h2]
    simp [h]
theorem trim_swap (l : List UInt8) : rtr (ltr l) = ltr (rtr l) := by
  induction l with
  | nil => rfl
  | cons c l ih =>
    cases hb : blank c with
    | true =>
      rw [ltr_yes l hb, ih, rtr_cons]
      split
      · rename_i h0; rw [h0]
      · rw [ltr_yes _ hb]
    | false =>
      rw [ltr_no l hb, rtr_cons]
      split
      · rw [if_neg (by simp [hb]), ltr_no _ hb]
      · rw [ltr_no _ hb]
/-- The text without blanks at its ends. -/
def trimB (s : ByteArray) : ByteArray := ⟨(rtr (ltr s.data.toList)).toArray⟩
theorem trimB_lib (s : ByteArray) : (⟨(Lib.trimS s.data.toList [32, 9]).toArray⟩ : ByteArray) = trimB s := by
  unfold trimB
  rw [trim_swap]
  rfl
theorem ltr_length (l : List UInt8) : (ltr l).length ≤ l.length := List.dropWhile_sublist _ |>.length_le
theorem rtr_length (l : List UInt8) : (rtr l).length ≤ l.length := by
  unfold rtr
  rw [List.length_reverse]
  have := (List.dropWhile_sublist blank (l := l.reverse)).length_le
  rw [List.length_reverse] at this
  exact this
theorem trimB_size (s : ByteArray) : (trimB s).size ≤ s.size := by
  have h1 := rtr_length (ltr s.data.toList)
  have h2 := ltr_length s.data.toList
  have h3 : s.data.toList.length = s.size := by simp
  have h4 : (trimB s).size = (rtr (ltr s.data.toList)).length := by show (rtr (ltr s.data.toList)).toArray.size = _; simp
  omega

theorem isBlank (b : UInt8) (w : World) : Calls Tryz.prog 135 #[.int .u8 (b.toNat : Int)] w fun e w' => e = .returned (.bool (blank b)) ∧ w = w' := by
  by_cases h1 : (b.toNat : Int) = 32
  · have e : blank b = true := by
      have : b = 32 := UInt8.toNat_inj.1 (by show b.toNat = 32; omega)
      subst this; rfl
    rw [e]
    have hq : ((b.toNat : Int) == 32) = true := by simp [h1]
    clear h1 e
    go_enter Tryz.func135, Tryz.ntmps135
    go_wp2
    go_ret
    exact ⟨rfl, rfl⟩
  · have hq : ((b.toNat : Int) == 32) = false := by simp [h1]
    by_cases h2 : (b.toNat : Int) = 9
    · have e : blank b = true := by
        have : b = 9 := UInt8.toNat_inj.1 (by show b.toNat = 9; omega)
        subst this; rfl
      rw [e]
      have hq2 : ((b.toNat : Int) == 9) = true := by simp [h2]
      clear h1 h2 e
      go_enter Tryz.func135, Tryz.ntmps135
      go_wp2
      go_ret
      exact ⟨rfl, rfl⟩
    · have e : blank b = false := by
        cases hk : blank b with
        | false => rfl
        | true =>
          unfold blank at hk
          simp at hk
          rcases hk with rfl | rfl
          · exact absurd rfl h1
          · exact absurd rfl h2
      rw [e]
      have hq2 : ((b.toNat : Int) == 9) = false := by simp [h2]
      clear h1 h2 e
      go_enter Tryz.func135, Tryz.ntmps135
      go_wp2
      go_ret
      exact ⟨rfl, rfl⟩

theorem ret_strT {a b : ByteArray} (h : a = b) : Ending.returned (.string a) = .returned (.string b) := by rw [h]
def strLen : Value → Nat | .string s => s.size | _ => 0

theorem full {x : ByteArray} (h : 0 < x.size) : ¬ x.toList = [] := by
  rw [ByteArray.toList_eq]
  intro e
  have h3 : x.data.toList.length = x.size := by simp
  rw [e] at h3
  simp at h3
  omega
theorem void {x : ByteArray} (h : ¬ 0 < x.size) : x.toList = [] := by
  rw [ByteArray.toList_eq]
  have h3 : x.data.toList.length = x.size := by simp
  exact List.eq_nil_of_length_eq_zero (by omega)
theorem list_of (x : ByteArray) (h : 0 < x.size) : x.data.toList = x[0] :: (x.extract 1 x.size).data.toList := by
  have h3 : x.data.toList.length = x.size := by simp
  have e : (x.extract 1 x.size).data.toList = x.data.toList.drop 1 := by
    rw [ByteArray.data_extract, Array.toList_extract]
    show (x.data.toList.drop 1).take (x.size - 1) = _
    exact List.take_of_length_le (by rw [List.length_drop]; omega)
  rw [e]
  exact List.drop_eq_getElem_cons (l := x.data.toList) (i := 0) (by omega)
theorem list_to (x : ByteArray) (h : 0 < x.size) : x.data.toList = (x.extract 0 (x.size - 1)).data.toList ++ [x[x.size - 1]] := by
  have h3 : x.data.toList.length = x.size := by simp
  have e : (x.extract 0 (x.size - 1)).data.toList = x.data.toList.take (x.size - 1) := by
    rw [ByteArray.data_extract, Array.toList_extract]
    rfl
  rw [e]
  have e2 := List.take_succ_eq_append_getElem (l := x.data.toList) (i := x.size - 1) (by omega)
  rw [show x.size - 1 + 1 = x.size from by omega, List.take_of_length_le (by omega)] at e2
  exact e2
theorem size_of (x : ByteArray) : (x.extract 1 x.size).size = x.size - 1 := by simp
theorem size_to (x : ByteArray) : (x.extract 0 (x.size - 1)).size = x.size - 1 := by simp

theorem trimB_is {y s : ByteArray} (h : y.data.toList = rtr (ltr s.data.toList)) : y = trimB s := by
  unfold trimB
  have : y.data = (rtr (ltr s.data.toList)).toArray := Array.ext' (by rw [h])
  cases y
  exact congrArg _ this

set_option maxHeartbeats 400000 in
theorem specTrim (s : ByteArray) (w : World) (hs : s.size ≤ 1048576) :
    Calls Tryz.prog 107 #[.string s] w fun e w' => e = .returned (.string (trimB s)) ∧ w = w' := by
  go_enter Tryz.func107, Tryz.ntmps107
  go_wp2
  go_loop [0] (fun v => ∃ x : ByteArray, v = .string x ∧ x.size ≤ s.size ∧ Hid (ltr x.data.toList = ltr s.data.toList)) (fun v => strLen v)
  case atStart => exact ⟨s, rfl, Nat.le_refl _, rfl⟩
  case round =>
    obtain ⟨x, rfl, hx, hl⟩ := hrel
    by_cases h0 : 0 < x.size
    · have hfull := full h0
      have hfe : x.toList.isEmpty = false := by simpa using hfull
      cases hb : blank x[0] with
      | true =>
        have HL : Hid (ltr (x.extract 1 x.size).data.toList = ltr s.data.toList) := by
          show ltr (x.extract 1 x.size).data.toList = ltr s.data.toList
          rw [← hl.out, list_of x h0, ltr_yes _ hb]
        have hsz := size_of x
        have HZ : Hid ((x.extract 1 x.size).size = x.size - 1) := hsz
        clear hsz
        go_wp2_with (go_at_call 135; refine (isBlank _ _).mono ?_; rintro e w' ⟨rfl, rfl⟩)
        go_round
        case rel => exact ⟨_, rfl, by rw [HZ.out]; omega, HL⟩
        case measure => show (x.extract 1 x.size).size < x.size; rw [HZ.out]; omega
      | false =>
        have HL : Hid (x.data.toList = ltr s.data.toList) := by
          show x.data.toList = ltr s.data.toList
          rw [← hl.out, list_of x h0, ltr_no _ hb]
        go_wp2_with (go_at_call 135; refine (isBlank _ _).mono ?_; rintro e w' ⟨rfl, rfl⟩)
        clear hfull hfe hb
        go_loop [0] (fun v => ∃ y : ByteArray, v = .string y ∧ y.size ≤ s.size ∧ Hid (rtr y.data.toList = rtr (ltr s.data.toList))) (fun v => strLen v)
        case atStart => exact ⟨x, rfl, hx, by rw [HL.out]; exact rfl⟩
        case round =>
          clear HL hl hx
          obtain ⟨y, rfl, hy, hr⟩ := hrel
          by_cases k0 : 0 < y.size
          · have kfull := full k0
            have kfe : y.toList.isEmpty = false := by simpa using kfull
            cases kb : blank y[y.size - 1] with
            | true =>
              have HR : Hid (rtr (y.extract 0 (y.size - 1)).data.toList = rtr (ltr s.data.toList)) := by
                show rtr (y.extract 0 (y.size - 1)).data.toList = rtr (ltr s.data.toList)
                rw [← hr.out, list_to y k0, rtr_yes _ kb]
              have HZ : Hid ((y.extract 0 (y.size - 1)).size = y.size - 1) := size_to y
              go_wp2_with (go_at_call 135; refine (isBlank _ _).mono ?_; rintro e w' ⟨rfl, rfl⟩)
              go_round
              case rel => exact ⟨_, rfl, by rw [HZ.out]; omega, HR⟩
              case measure => show (y.extract 0 (y.size - 1)).size < y.size; rw [HZ.out]; omega
            | false =>
              have HR : Hid (y = trimB s) := by
                show y = trimB s
                refine trimB_is ?_
                rw [← hr.out, list_to y k0, rtr_no _ kb]
              go_wp2_with (go_at_call 135; refine (isBlank _ _).mono ?_; rintro e w' ⟨rfl, rfl⟩)
              go_ret
              exact ⟨ret_strT HR.out, rfl⟩
          · have knil := void k0
            have HR : Hid (y = trimB s) := by
              show y = trimB s
              refine trimB_is ?_
              rw [← hr.out, ← ByteArray.toList_eq, knil]; rfl
            go_wp2
            go_ret
            exact ⟨ret_strT HR.out, rfl⟩
    · have hnil := void h0
      have HL : Hid (x.data.toList = ltr s.data.toList) := by
        show x.data.toList = ltr s.data.toList
        rw [← hl.out, ← ByteArray.toList_eq, hnil]; rfl
      go_wp2
      clear hnil h0
      go_loop [0] (fun v => ∃ y : ByteArray, v = .string y ∧ y.size ≤ s.size ∧ Hid (rtr y.data.toList = rtr (ltr s.data.toList))) (fun v => strLen v)
      case atStart => exact ⟨x, rfl, hx, by rw [HL.out]; exact rfl⟩
      case round =>
        clear HL hl hx
        obtain ⟨y, rfl, hy, hr⟩ := hrel
        by_cases k0 : 0 < y.size
        · have kfull := full k0
          have kfe : y.toList.isEmpty = false := by simpa using kfull
          cases kb : blank y[y.size - 1] with
          | true =>
            have HR : Hid (rtr (y.extract 0 (y.size - 1)).data.toList = rtr (ltr s.data.toList)) := by
              show rtr (y.extract 0 (y.size - 1)).data.toList = rtr (ltr s.data.toList)
              rw [← hr.out, list_to y k0, rtr_yes _ kb]
            have HZ : Hid ((y.extract 0 (y.size - 1)).size = y.size - 1) := size_to y
            go_wp2_with (go_at_call 135; refine (isBlank _ _).mono ?_; rintro e w' ⟨rfl, rfl⟩)
            go_round
            case rel => exact ⟨_, rfl, by rw [HZ.out]; omega, HR⟩
            case measure => show (y.extract 0 (y.size - 1)).size < y.size; rw [HZ.out]; omega
          | false =>
            have HR : Hid (y = trimB s) := by
              show y = trimB s
              refine trimB_is ?_
              rw [← hr.out, list_to y k0, rtr_no _ kb]
            go_wp2_with (go_at_call 135; refine (isBlank _ _).mono ?_; rintro e w' ⟨rfl, rfl⟩)
            go_ret
            exact ⟨ret_strT HR.out, rfl⟩
        · have knil := void k0
          have HR : Hid (y = trimB s) := by
            show y = trimB s
            refine trimB_is ?_
            rw [← hr.out, ← ByteArray.toList_eq, knil]; rfl
          go_wp2
          go_ret
          exact ⟨ret_strT HR.out, rfl⟩

theorem implTrim (s : ByteArray) (w : World) (hs : s.size ≤ 1048576) :
    Calls Tryz.prog 127 #[.string s] w fun e w' => e = .returned (.string (trimB s)) ∧ Below w.heap.size w w' := by
  have hz := trimB_size s
  have ht := Tryz.strings_Trim s w (by omega)
  rw [trimB_lib] at ht
  generalize trimB s = t at ht hz
  go_enter Tryz.func127, Tryz.ntmps127
  go_wp2_with (first | (go_at_call 151; refine ht.mono ?_; rintro e w1 ⟨rfl, hb1⟩) | (go_at_call 112; refine (Tryz.stringslite_Clone _ _ (by omega)).mono ?_; rintro e w2 ⟨rfl, hb2⟩) | go_in)
  go_ret
  exact ⟨rfl, hb1.trans (hb2.mono hb1.size)⟩
end Go.Proofs.YtkaogmdhjcgcdaaGreatDoor
namespace Go.Proofs.YtkaogmdhjcgcdaaGreatDoor
open Go.RowKit

/-- The number of a visible byte. -/
def visN (r : Int) : Bool := decide ((32 ≤ r ∧ r ≤ 126) ∨ r = 9)
theorem visN_yes {r : Int} (h : (32 ≤ r ∧ r ≤ 126) ∨ r = 9) : visN r = true := decide_eq_true h
theorem visN_no {r : Int} (h : ¬ ((32 ≤ r ∧ r ≤ 126) ∨ r = 9)) : visN r = false := decide_eq_false h
/-- A visible text. -/
def visB (s : ByteArray) : Bool := decide (s.size ≤ 400) && allB visN s.data.toList
theorem visB_out {s : ByteArray} (h : 400 < s.size) : false = visB s := by
  have e : decide (s.size ≤ 400) = false := decide_eq_false (by omega)
  unfold visB; rw [e]; rfl
theorem visB_in {s : ByteArray} {b : Bool} (h2 : s.size ≤ 400) (h : b = allB visN s.data.toList) : b = visB s := by
  have e : decide (s.size ≤ 400) = true := decide_eq_true h2
  unfold visB; rw [e, h]; rfl
theorem bne_yes {a b : Int} (h : a ≠ b) : (a != b) = true := by simp [h]
theorem bne_no {a b : Int} (h : a = b) : (a != b) = false := by simp [h]

theorem specVis_out (s : ByteArray) (w : World) (hs : s.size ≤ maxLen) (h : 400 < s.size) :
    Calls Tryz.prog 117 #[.string s] w fun e w' => e = .returned (.bool (visB s)) ∧ w' = w := by
  unfold maxLen at hs
  have ht := visB_out h
  have HT : Hid (false = visB s) := ht
  clear ht
  go_enter Tryz.func117, Tryz.ntmps117
  go_wp2
  go_ret
  exact ⟨ret_bool HT.out, rfl⟩

set_option maxHeartbeats 400000 in
theorem specVis_in (s : ByteArray) (w : World) (h2 : s.size ≤ 400) :
    Calls Tryz.prog 117 #[.string s] w fun e w' => e = .returned (.bool (visB s)) ∧ w' = w := by
  have d2 : decide (400 < (s.size : Int)) = false := by simp; omega
  go_enter Tryz.func117, Tryz.ntmps117
  go_wp2
  go_loop [3] (fun i => ∃ k : Nat, k ≤ s.size ∧ i = .int .i64 k ∧ Hid (allB visN (s.data.toList.take k) = true)) (fun i => s.size - (intOf i).toNat)
  case atStart => exact ⟨0, Nat.zero_le _, rfl, allB_nil _ _⟩
  case round =>
    obtain ⟨k, hk, rfl, ha⟩ := hrel
    by_cases hlt : k < s.size
    · by_cases h9 : (s[k].toNat : Int) = 9
      · have hv := allB_step hlt ha.out (visN_yes (Or.inr h9))
        have HV : Hid (allB visN (s.data.toList.take (k + 1)) = true) := hv
        have hq := bne_no h9
        have hl : (s[k].toNat : Int) < 32 := by omega
        clear hv h9
        go_wp2
        go_round
        case rel => exact ⟨k + 1, by omega, by go_num, HV⟩
        case measure => simp [intOf]; omega
      · have hq := bne_yes h9
        by_cases hl : (s[k].toNat : Int) < 32
        · have hf := allB_not (p := visN) hlt (visN_no (by omega))
          have HF : Hid (false = allB visN s.data.toList) := hf
          clear hf h9
          go_wp2
          go_ret
          exact ⟨ret_bool (visB_in h2 HF.out), rfl⟩
        · by_cases hg : 126 < (s[k].toNat : Int)
          · have hf := allB_not (p := visN) hlt (visN_no (by omega))
            have HF : Hid (false = allB visN s.data.toList) := hf
            clear hf h9
            go_wp2
            go_ret
            exact ⟨ret_bool (visB_in h2 HF.out), rfl⟩
          · have hv := allB_step hlt ha.out (visN_yes (by omega))
            have HV : Hid (allB visN (s.data.toList.take (k + 1)) = true) := hv
            clear hv h9
            go_wp2
            go_round
            case rel => exact ⟨k + 1, by omega, by go_num, HV⟩
            case measure => simp [intOf]; omega
    · go_wp2
      go_ret
      exact ⟨ret_bool (visB_in h2 (allB_end hlt ha.out)), rfl⟩

theorem specVis (s : ByteArray) (w : World) (hs : s.size ≤ maxLen) :
    Calls Tryz.prog 117 #[.string s] w fun e w' => e = .returned (.bool (visB s)) ∧ w' = w := by
  by_cases h : 400 < s.size
  · exact specVis_out s w hs h
  · exact specVis_in s w (by omega)

theorem implVis_out (s : ByteArray) (w : World) (hs : s.size ≤ maxLen) (h : 400 < s.size) :
    Calls Tryz.prog 126 #[.string s] w fun e w' => e = .returned (.bool (visB s)) ∧ Below w.heap.size w w' := by
  unfold maxLen at hs
  have ht := visB_out h
  have HT : Hid (false = visB s) := ht
  clear ht
  go_enter Tryz.func126, Tryz.ntmps126
  go_wp2
  go_ret
  exact ⟨ret_bool HT.out, Below.refl _ _⟩

set_option maxHeartbeats 400000 in
theorem implVis_in (s : ByteArray) (w : World) (h2 : s.size ≤ 400) :
    Calls Tryz.prog 126 #[.string s] w fun e w' => e = .returned (.bool (visB s)) ∧ Below w.heap.size w w' := by
  have d2 : decide (400 < (s.size : Int)) = false := by simp; omega
  go_enter Tryz.func126, Tryz.ntmps126
  go_wp2
  go_loopw [4] (fun _ wr => ∃ pos : Nat, pos ≤ s.size ∧ wr = w.iter s pos ∧ Hid (allB visN (s.data.toList.take pos) = true)) (fun _ wr => s.size - wr.iterPos w.heap.size)
  case atStart => exact ⟨0, Nat.zero_le _, rfl, allB_nil _ _⟩
  case round =>
    obtain ⟨pos, hpos, rfl, ha⟩ := hrel
    by_cases hp : pos < s.size
    · by_cases hasc : (s[pos]).toNat < 128
      · have hnx : ∀ ty, (Instr.next (.pointer (some ⟨w.heap.size, 0, none⟩)) true ty).run Tryz.prog (w.iter s pos) = _ := fun ty => run_next_ascii w s pos ty hp hasc
        by_cases h9 : (s[pos].toNat : Int) = 9
        · have hv := allB_step hp ha.out (visN_yes (Or.inr h9))
          have HV : Hid (allB visN (s.data.toList.take (pos + 1)) = true) := hv
          have hq := bne_no h9
          clear hv h9
          go_wp2
          go_roundw
          case rel => exact ⟨pos + 1, by omega, rfl, HV⟩
          case measure => simp; omega
        · have hq := bne_yes h9
          by_cases hl : (s[pos].toNat : Int) < 32
          · have hf := allB_not (p := visN) hp (visN_no (by omega))
            have HF : Hid (false = allB visN s.data.toList) := hf
            clear hf h9
            go_wp2
            go_ret
            exact ⟨ret_bool (visB_in h2 HF.out), below_iter _ _ _⟩
          · by_cases hg : 126 < (s[pos].toNat : Int)
            · have hf := allB_not (p := visN) hp (visN_no (by omega))
              have HF : Hid (false = allB visN s.data.toList) := hf
              clear hf h9
              go_wp2
              go_ret
              exact ⟨ret_bool (visB_in h2 HF.out), below_iter _ _ _⟩
            · have hv := allB_step hp ha.out (visN_yes (by omega))
              have HV : Hid (allB visN (s.data.toList.take (pos + 1)) = true) := hv
              clear hv h9
              go_wp2
              go_roundw
              case rel => exact ⟨pos + 1, by omega, rfl, HV⟩
              case measure => simp; omega
      · have hnx : ∀ ty, (Instr.next (.pointer (some ⟨w.heap.size, 0, none⟩)) true ty).run Tryz.prog (w.iter s pos) = _ := fun ty => run_next_any w s pos ty hp
        have hd := (decode_high s pos hp (by omega)).1
        have hf := allB_not (p := visN) hp (visN_no (by omega))
        have HF : Hid (false = allB visN s.data.toList) := hf
        clear hf
        generalize (Utf8.decode s pos).1 = r at hnx hd
        generalize (Utf8.decode s pos).2 = p2 at hnx
        have hq : ((r : Int) != 9) = true := bne_yes (by omega)
        have hl : ¬ (r : Int) < 32 := by omega
        have hg : 126 < (r : Int) := by omega
        go_wp2
        go_ret
        exact ⟨ret_bool (visB_in h2 HF.out), below_iter _ _ _⟩
    · have hnx : ∀ ty, (Instr.next (.pointer (some ⟨w.heap.size, 0, none⟩)) true ty).run Tryz.prog (w.iter s pos) = _ := fun ty => run_next_end w s pos ty hp
      go_wp2
      go_ret
      exact ⟨ret_bool (visB_in h2 (allB_end hp ha.out)), below_iter _ _ _⟩

theorem implVis (s : ByteArray) (w : World) (hs : s.size ≤ maxLen) :
    Calls Tryz.prog 126 #[.string s] w fun e w' => e = .returned (.bool (visB s)) ∧ Below w.heap.size w w' := by
  by_cases h : 400 < s.size
  · exact implVis_out s w hs h
  · exact implVis_in s w (by omega)
end Go.Proofs.YtkaogmdhjcgcdaaGreatDoor
namespace Go.Proofs.YtkaogmdhjcgcdaaGreatDoor
open Go.RowKit

/-- The parts: what was read of the one at hand, whether one is open, what is still to be read. -/
def partsF (cur : List UInt8) (op : Bool) : List UInt8 → List (List UInt8)
  | [] => [cur]
  | [c] => if op = false ∧ c.toNat = 44 then [cur, []] else [cur ++ [c]]
  | c :: d :: r =>
    if op = false ∧ c.toNat = 44 then cur :: partsF [] false (d :: r)
    else if c.toNat = 34 then partsF (cur ++ [c]) (!op) (d :: r)
    else if op = true ∧ c.toNat = 92 then partsF (cur ++ [c] ++ [d]) true r
    else partsF (cur ++ [c]) op (d :: r)

theorem partsF_nil (cur : List UInt8) (op : Bool) : partsF cur op [] = [cur] := by rw [partsF]
theorem partsF_comma {c : UInt8} (cur r : List UInt8) (h : c.toNat = 44) : partsF cur false (c :: r) = cur :: partsF [] false r := by
  cases r with
  | nil => simp [partsF, h]
  | cons d r => simp [partsF, h]
theorem partsF_quote {c : UInt8} (cur r : List UInt8) (op : Bool) (h : c.toNat = 34) : partsF cur op (c :: r) = partsF (cur ++ [c]) (!op) r := by
  cases r with
  | nil => simp [partsF, h]
  | cons d r => simp [partsF, h]
theorem partsF_take {c : UInt8} (cur r : List UInt8) (h : c.toNat = 92) : partsF cur true (c :: r) = match r with | [] => [cur ++ [c]] | d :: r' => partsF (cur ++ [c] ++ [d]) true r' := by
  cases r with
  | nil => simp [partsF]
  | cons d r => simp [partsF, h]
theorem partsF_plain {c : UInt8} (cur r : List UInt8) (op : Bool) (h1 : ¬ (op = false ∧ c.toNat = 44)) (h2 : c.toNat ≠ 34) (h3 : ¬ (op = true ∧ c.toNat = 92)) : partsF cur op (c :: r) = partsF (cur ++ [c]) op r := by
  cases r with
  | nil => rw [partsF_nil]; unfold partsF; rw [if_neg h1]
  | cons d r => rw [partsF, if_neg h1, if_neg h2, if_neg h3]

/-- The trimmed part, where it is not empty. -/
def one (x : ByteArray) : List ByteArray := if 0 < (trimB x).size then [trimB x] else []
theorem one_yes {x : ByteArray} (h : 0 < (trimB x).size) : one x = [trimB x] := by unfold one; rw [if_pos h]
theorem one_no {x : ByteArray} (h : ¬ 0 < (trimB x).size) : one x = [] := by unfold one; rw [if_neg h]
def itemsOf (ps : List (List UInt8)) : List ByteArray := ps.flatMap fun p => one ⟨p.toArray⟩
theorem itemsOf_cons (p : List UInt8) (ps : List (List UInt8)) : itemsOf (p :: ps) = one ⟨p.toArray⟩ ++ itemsOf ps := by simp [itemsOf]
theorem itemsOf_one (p : List UInt8) : itemsOf [p] = one ⟨p.toArray⟩ := by simp [itemsOf]

/-- The bytes from place a to place i. -/
def cutL (l : List UInt8) (a i : Nat) : List UInt8 := (l.take i).drop a
theorem cutL_self (l : List UInt8) (a : Nat) : cutL l a a = [] := by
  unfold cutL; exact List.drop_of_length_le (List.length_take_le _ _)
theorem cutL_next {s : ByteArray} {a i : Nat} (h : i < s.size) (ha : a ≤ i) : cutL s.data.toList a i ++ [s[i]] = cutL s.data.toList a (i + 1) := by
  unfold cutL
  rw [take_snoc s i h, List.drop_append_of_le_length]
  rw [List.length_take]
  have : s.data.toList.length = s.size := by simp
  omega
theorem cutL_past {s : ByteArray} {a i : Nat} (h : s.size ≤ i) : cutL s.data.toList a (i + 1) = cutL s.data.toList a i := by
  unfold cutL
  have e : s.data.toList.length = s.size := by simp
  rw [List.take_of_length_le (by omega), List.take_of_length_le (by omega)]
theorem drop_at' (s : ByteArray) (i : Nat) (h : i < s.size) : s.data.toList.drop i = s[i] :: s.data.toList.drop (i + 1) := by
  rw [List.drop_eq_getElem_cons (by simpa using h)]; rfl
theorem drop_past' (s : ByteArray) (i : Nat) (h : ¬ i < s.size) : s.data.toList.drop i = [] :=
  List.drop_of_length_le (by have e : s.data.toList.length = s.size := by simp
                             omega)
theorem ext_bytes {a b : ByteArray} (h : a.data.toList = b.data.toList) : a = b := by
  have : a.data = b.data := Array.ext' h
  cases a; cases b; exact congrArg _ this
theorem cut_text (s : ByteArray) (a i : Nat) (_hi : i ≤ s.size) : s.extract a i = ⟨(cutL s.data.toList a i).toArray⟩ := by
  apply ext_bytes
  rw [ByteArray.data_extract, Array.toList_extract]
  show (s.data.toList.drop a).take (i - a) = (s.data.toList.take i).drop a
  rw [List.drop_take]

/-- The items of a text. -/
def itemsT (s : ByteArray) : List ByteArray := itemsOf (partsF [] false s.data.toList)
def itemsA (s : ByteArray) : List ByteArray := if visB s = true then itemsT s else []
theorem itemsA_yes {s : ByteArray} (h : visB s = true) : itemsT s = itemsA s := by unfold itemsA; rw [if_pos h]
theorem itemsA_no {s : ByteArray} (h : visB s = false) : [] = itemsA s := by unfold itemsA; rw [if_neg (by simp [h])]

/-- What stands at a state: the items so far, and those of what is still to be read. -/
def At (s : ByteArray) (out : List ByteArray) (a i : Nat) (op : Bool) : Prop := itemsT s = out ++ itemsOf (partsF (cutL s.data.toList a i) op (s.data.toList.drop i))
theorem At.start (s : ByteArray) : At s [] 0 0 false := rfl
theorem At.comma {s : ByteArray} {out : List ByteArray} {a i : Nat} (h : At s out a i false) (hi : i < s.size) (hc : (s[i].toNat : Int) = 44) : At s (out ++ one ⟨(cutL s.data.toList a i).toArray⟩) (i + 1) (i + 1) false := by
  unfold At at *
  rw [h, drop_at' s i hi, partsF_comma _ _ (by omega), itemsOf_cons, cutL_self, List.append_assoc]
theorem At.quote {s : ByteArray} {out : List ByteArray} {a i : Nat} {op : Bool} (h : At s out a i op) (hi : i < s.size) (ha : a ≤ i) (hc : (s[i].toNat : Int) = 34) : At s out a (i + 1) (!op) := by
  unfold At at *
  rw [h, drop_at' s i hi, partsF_quote _ _ _ (by omega), cutL_next hi ha]
theorem At.plain {s : ByteArray} {out : List ByteArray} {a i : Nat} {op : Bool} (h : At s out a i op) (hi : i < s.size) (ha : a ≤ i) (h1 : ¬ (op = false ∧ (s[i].toNat : Int) = 44)) (h2 : (s[i].toNat : Int) ≠ 34) (h3 : ¬ (op = true ∧ (s[i].toNat : Int) = 92)) : At s out a (i + 1) op := by
  unfold At at *
  rw [h, drop_at' s i hi, partsF_plain _ _ _ (fun x => h1 ⟨x.1, by omega⟩) (by omega) (fun x => h3 ⟨x.1, by omega⟩), cutL_next hi ha]
/-- A byte 92 takes the byte behind it along, if there is one. -/
theorem At.take {s : ByteArray} {out : List ByteArray} {a i : Nat} (h : At s out a i true) (hi : i < s.size) (ha : a ≤ i) (hc : (s[i].toNat : Int) = 92) : At s out a (i + 2) true := by
  unfold At at *
  rw [h, drop_at' s i hi, partsF_take _ _ (by omega)]
  by_cases hn : i + 1 < s.size
  · rw [drop_at' s (i + 1) hn]
    show out ++ itemsOf (partsF (cutL s.data.toList a i ++ [s[i]] ++ [s[i + 1]]) true (s.data.toList.drop (i + 1 + 1))) = _
    rw [cutL_next hi ha, cutL_next hn (by omega)]
  · rw [drop_past' s (i + 1) hn, drop_past' s (i + 2) (by omega), partsF_nil]
    show out ++ itemsOf [cutL s.data.toList a i ++ [s[i]]] = _
    rw [cutL_next hi ha, cutL_past (i := i + 1) (by omega)]
/-- At the end of it (or one past it) the last part is taken. -/
theorem At.done {s : ByteArray} {out : List ByteArray} {a i : Nat} {op : Bool} (h : At s out a i op) (hi : ¬ i < s.size) : out ++ one (s.extract a s.size) = itemsT s := by
  unfold At at h
  have e : s.data.toList.length = s.size := by simp
  have e2 : cutL s.data.toList a i = cutL s.data.toList a s.size := by
    unfold cutL; rw [List.take_of_length_le (by omega), List.take_of_length_le (by omega)]
  rw [h, drop_past' s i hi, partsF_nil, itemsOf_one, cut_text s a s.size (Nat.le_refl _), e2]
/-- A last byte 92 that takes nothing along, as the specification reads it. -/
theorem At.last {s : ByteArray} {out : List ByteArray} {a i : Nat} (h : At s out a i true) (hi : i < s.size) (ha : a ≤ i) (hc : (s[i].toNat : Int) = 92) (hn : ¬ i + 1 < s.size) : At s out a (i + 1) true := by
  have h2 := h.take hi ha hc
  unfold At at *
  rw [h2, drop_past' s (i + 1) hn, drop_past' s (i + 2) (by omega), cutL_past (i := i + 1) (by omega)]

/-! ### Slices of texts that a call owns -/
theorem Tryz.info9 : (Tryz.prog.info? 9).map (fun i => (i.zero, i.size, i.bytes)) = some (some (.string ⟨#[]⟩), 1, 16) := by kernel_rfl

/-- The value v is a slice that is not nil and owns the texts l, in a block from B on. -/
def OwnsS (w : World) (B : Nat) (v : Value) (l : List ByteArray) : Prop := (∃ g cap, v = .slice (some ⟨g, 0, none⟩) l.length cap ∧ B ≤ g ∧ g < w.heap.size) ∧ w.ownsRow B 9 1 v l.length (l.map Value.string)

theorem OwnsS.born (w : World) : OwnsS (w.alloc (.cells #[] 9)) w.heap.size (.slice (some ⟨w.heap.size, 0, none⟩) 0 0) [] :=
  ⟨⟨w.heap.size, 0, rfl, Nat.le_refl _, by simp⟩, World.ownsRow_lit w #[] 0 (Nat.le_refl _) (by unfold maxLen; decide) rfl⟩
theorem OwnsS.alloc {w : World} {B : Nat} {v : Value} {l : List ByteArray} (h : OwnsS w B v l) (o : Obj) : OwnsS (w.alloc o) B v l := by
  obtain ⟨⟨g, cap, hv, hb, hg⟩, ho⟩ := h
  exact ⟨⟨g, cap, hv, hb, by simp; omega⟩, ho.alloc o⟩
theorem OwnsS.drew {w : World} {B : Nat} {v : Value} {l : List ByteArray} (h : OwnsS w B v l) : OwnsS w.drew B v l := h
theorem OwnsS.kept {w w' : World} {B : Nat} {v : Value} {l : List ByteArray} (h : OwnsS w B v l) (hb : Below w.heap.size w w') : OwnsS w' B v l := by
  obtain ⟨⟨g, cap, hv, hbg, hg⟩, h1, h2⟩ := h
  refine ⟨⟨g, cap, hv, hbg, by have := hb.size; omega⟩, h1, ?_⟩
  rcases h2 with h0 | ⟨g', cap', cur, hv', hb', hg', rest⟩
  · exact .inl h0
  · exact .inr ⟨g', cap', cur, hv', hb', by rw [hb.block g' (Array.getElem?_eq_some_iff.1 hg').1]; exact hg', rest⟩
theorem OwnsS.from {w : World} {B : Nat} {v : Value} {l : List ByteArray} (h : OwnsS w B v l) : ∀ k, v.ownBlock = some k → B ≤ k := fun k hk => (World.ownsRow.lt h.2 k hk).1

/-- One text appended. -/
theorem wpList_pushS {ops : Array Oper} {rest : List Oper} {o : Oper} {a : Act} {Q : Exit → Act → World → Prop} (w : World) (hgd : o.guard = none) (s x : Operand)
    (ho : o.op = .call { callee := .builtin .append, args := #[s, x], argTypes := #[91, 91] }) (B : Nat) (v : Value) (l : List ByteArray) (c : ByteArray) (hs : a.eval s = v) (hown : OwnsS w B v l)
    (hx : a.eval x = .slice (some ⟨w.heap.size, 0, none⟩) 1 1) (hlen : l.length ≤ 7000000000000) (hB : B ≤ w.heap.size)
    (h : ∀ v' w', OwnsS w' B v' (l ++ [c]) → w.grownBy w' v.ownBlock → wpList Tryz.prog ops Q rest (a.put o.dst v') w') :
    wpList Tryz.prog ops Q (o :: rest) a (w.alloc (.cells #[.string c] 9)) := by
  obtain ⟨i0, hi, hz0, hz1, hz2⟩ := info_parts Tryz.info9
  refine wpList_append_own _ hgd s x 91 ho B 9 i0 (.string ⟨#[]⟩) 1 16 Tryz.underlying91 hi hz0 hz1 hz2 rfl (by decide) v l.length (l.map Value.string) hs (hown.2.alloc _) ⟨w.heap.size, 0, none⟩ 1 1 [.string c] hx rfl (cell_one_new _ _ _)
    (by intro u hu; simp at hu; subst hu; rfl) (by unfold maxLen; omega) (by omega) (by simp; omega) ?_
  intro v' w' h1 h2 h3
  refine h v' w' ?_ ⟨h2.os, h2.tape, h2.output, ?_, ?_⟩
  · have h1' : w'.ownsRow B 9 1 v' (l ++ [c]).length ((l ++ [c]).map Value.string) := by
      rw [List.map_append, List.length_append]
      exact h1
    refine ⟨?_, h1'⟩
    rcases h1'.2 with ⟨h0, _⟩ | ⟨g, cap, cur, hv, hb, hg, rest⟩
    · have := (h3.1 h0).2
      omega
    · exact ⟨g, cap, hv, hb, (Array.getElem?_eq_some_iff.1 hg).1⟩
  · have := h2.size
    simp at this
    omega
  · intro k hk hne
    rw [h2.block k (by simp; omega) hne]
    exact Below.heap_alloc _ _ _ hk
end Go.Proofs.YtkaogmdhjcgcdaaGreatDoor
namespace Go.Proofs.YtkaogmdhjcgcdaaGreatDoor
open Go.RowKit

theorem len_data (s : ByteArray) : s.data.toList.length = s.size := by simp

/-- The text with each capital made small. -/
def lowS (s : ByteArray) : ByteArray := ⟨(s.data.toList.map lowB).toArray⟩

theorem addr_at (B j : Nat) : (⟨B, 0, none⟩ : Addr).add j = ⟨B, j, none⟩ := by
  cases j with
  | zero => rfl
  | succ j => simp [Addr.add]
theorem iterPos_put (A : World) (a : Addr) (v : Value) (k : Nat) (h : k ≠ a.block) : (A.setCell a v).iterPos k = A.iterPos k := by
  unfold World.iterPos; rw [Below.heap_setCell _ _ _ _ h]
theorem back_low (s : ByteArray) (k : Nat) (hk : ¬ k < s.size) (wr : World) (B cap : Nat) (h : RowIs wr B (cur lowB s.data.toList k)) :
    (convert 22 9 (.slice (some ⟨B, 0, none⟩) s.size cap)).run Tryz.prog wr = .ok (.string (lowS s)) wr := by
  rw [cur_all lowB _ k (by rw [len_data]; exact hk)] at h
  have hl : (s.data.toList.map lowB).length = s.size := by rw [List.length_map, len_data]
  have := run_convert_bytes_back (P := Tryz.prog) wr 22 9 5 ⟨B, 0, none⟩ cap (s.data.toList.map lowB) Tryz.underlying22 Tryz.underlying5 Tryz.underlying9 (fun j hj => by
    rw [addr_at]
    exact (h j hj).1)
  rw [hl] at this
  exact this

set_option maxHeartbeats 400000 in
theorem specLow (s : ByteArray) (w : World) (hs : s.size ≤ maxLen) :
    Calls Tryz.prog 84 #[.string s] w fun e w' => e = .returned (.string (lowS s)) ∧ Below w.heap.size w w' := by
  unfold maxLen at hs
  obtain ⟨cap, C, hconv, hrow⟩ := bytes_laid (P := Tryz.prog) w 9 22 5 s Tryz.underlying9 Tryz.underlying22 Tryz.underlying5
  have HR : Hid (RowIs (w.alloc (.cells C 5 (C.size, C.size + 1))) w.heap.size s.data.toList) := hrow
  clear hrow
  go_enter Tryz.func84, Tryz.ntmps84
  go_wp2
  go_loopw [4] (fun i wr => ∃ k : Nat, k ≤ s.size ∧ i = .int .i64 k ∧ Below w.heap.size w wr ∧ w.heap.size < wr.heap.size ∧ Hid (RowIs wr w.heap.size (cur lowB s.data.toList k))) (fun i _ => s.size - (intOf i).toNat)
  case atStart => exact ⟨0, Nat.zero_le _, rfl, ((Below.refl _ w).alloc (Nat.le_refl _) _).drew, by simp, by rw [cur_zero]; exact HR.out⟩
  case round =>
    obtain ⟨k, hk, rfl, hb, hz, hr⟩ := hrel
    clear hconv
    by_cases hlt : k < s.size
    · have hlt' : k < s.data.toList.length := by rw [len_data]; exact hlt
      have hat := hr.out k (by rw [cur_length]; exact hlt')
      rw [cur_at _ _ _ hlt'] at hat
      have hcell : wr.cell? ⟨w.heap.size, k, none⟩ = some (.int .u8 (s[k].toNat : Int)) := hat.1
      have hfz := hat.2
      clear hat
      by_cases hc : 65 ≤ (s[k].toNat : Int) ∧ (s[k].toNat : Int) ≤ 90
      · have hlow := lowB_yes (c := s[k]) (by omega)
        have hnew := hr.out.put (k := k) (by rw [cur_length]; exact hlt') (lowB s[k])
        have e1 : (cur lowB s.data.toList k).set k (lowB s[k]) = cur lowB s.data.toList (k + 1) := cur_next lowB s.data.toList k hlt'
        rw [e1, hlow] at hnew
        have HN : Hid (RowIs (wr.setCell ⟨w.heap.size, k, none⟩ (.int .u8 ((s[k].toNat : Int) + 32))) w.heap.size (cur lowB s.data.toList (k + 1))) := hnew
        clear hnew hlow e1
        obtain ⟨hc1, hc2⟩ := hc
        go_wp2
        go_roundw
        case rel => exact ⟨k + 1, by omega, by go_num, hb.setCell (Nat.le_refl _) _, by simpa [World.setCell] using hz, HN⟩
        case measure => simp [intOf]; omega
      · have e1 : cur lowB s.data.toList (k + 1) = cur lowB s.data.toList k := cur_same lowB s.data.toList k hlt' (lowB_no (c := s[k]) (by omega))
        have HN : Hid (RowIs wr w.heap.size (cur lowB s.data.toList (k + 1))) := by rw [e1]; exact hr
        clear e1
        rcases (show (s[k].toNat : Int) < 65 ∨ (65 ≤ (s[k].toNat : Int) ∧ 90 < (s[k].toNat : Int)) from by omega) with g | ⟨g, g'⟩
        all_goals
          clear hc
          go_wp2
          go_roundw
          case rel => exact ⟨k + 1, by omega, by go_num, hb, hz, HN⟩
          case measure => simp [intOf]; omega
    · have hback := back_low s k hlt wr w.heap.size cap hr.out
      go_wp2
      go_ret
      exact ⟨rfl, hb⟩

theorem iter_put (W : World) (s : ByteArray) (p B k : Nat) (v : Value) (h : B < W.heap.size) : (W.iter s p).setCell ⟨B, k, none⟩ v = (W.setCell ⟨B, k, none⟩ v).iter s p :=
  World.setCell_alloc_past _ _ _ _ h
theorem iter_cell (W : World) (s : ByteArray) (p B k : Nat) (h : B < W.heap.size) : (W.iter s p).cell? ⟨B, k, none⟩ = W.cell? ⟨B, k, none⟩ :=
  (below_iter W s p).cell (p := ⟨B, k, none⟩) h
theorem iter_frozen (W : World) (s : ByteArray) (p B k : Nat) (h : B < W.heap.size) : (W.iter s p).frozen? ⟨B, k, none⟩ = W.frozen? ⟨B, k, none⟩ :=
  (below_iter W s p).frozen (p := ⟨B, k, none⟩) h

theorem low_world {A B : World} {n m : Int} {a : Addr} (h : n = m) (e : A.setCell a (.int .u8 m) = B) : A.setCell a (.int .u8 n) = B := by rw [h]; exact e

set_option maxHeartbeats 400000 in
theorem implLow (s : ByteArray) (w : World) (_hs : s.size ≤ maxLen) :
    Calls Tryz.prog 129 #[.string s] w fun e w' => e = .returned (.string (lowS s)) ∧ Below w.heap.size w w' := by
  obtain ⟨cap, C, hconv, hrow⟩ := bytes_laid (P := Tryz.prog) w 9 22 5 s Tryz.underlying9 Tryz.underlying22 Tryz.underlying5
  have HR : Hid (RowIs (w.alloc (.cells C 5 (C.size, C.size + 1))) w.heap.size s.data.toList) := hrow
  clear hrow
  go_enter Tryz.func129, Tryz.ntmps129
  go_wp2
  go_loopw [4, 5] (fun _ _ wr => ∃ (pos : Nat) (W : World), pos ≤ s.size ∧ wr = W.iter s pos ∧ W.heap.size = w.heap.size + 1 ∧ Below w.heap.size w W ∧ Hid (RowIs W w.heap.size (cur lowB s.data.toList pos))) (fun _ _ wr => s.size - wr.iterPos (w.heap.size + 1))
  case atStart => exact ⟨0, _, Nat.zero_le _, rfl, by simp, ((Below.refl _ w).alloc (Nat.le_refl _) _).drew, by rw [cur_zero]; exact HR.out⟩
  case round =>
    obtain ⟨pos, W, hpos, rfl, hW, hb, hr⟩ := hrel
    clear hconv
    by_cases hp : pos < s.size
    · have hlt' : pos < s.data.toList.length := by rw [len_data]; exact hp
      by_cases hasc : (s[pos]).toNat < 128
      · have hnx0 : ∀ ty, (Instr.next (.pointer (some ⟨W.heap.size, 0, none⟩)) true ty).run Tryz.prog (W.iter s pos) = _ := fun ty => run_next_ascii W s pos ty hp hasc
        rw [hW] at hnx0
        have hat := hr.out pos (by rw [cur_length]; exact hlt')
        rw [cur_at _ _ _ hlt'] at hat
        have hcell : (W.iter s (pos + 1)).cell? ⟨w.heap.size, pos, none⟩ = some (.int .u8 (s[pos].toNat : Int)) := (iter_cell W s (pos + 1) w.heap.size pos (by omega)).trans hat.1
        have hfz : (W.iter s (pos + 1)).frozen? ⟨w.heap.size, pos, none⟩ = false := (iter_frozen W s (pos + 1) w.heap.size pos (by omega)).trans hat.2
        clear hat
        by_cases hc : 65 ≤ (s[pos].toNat : Int) ∧ (s[pos].toNat : Int) ≤ 90
        · have hlow := lowB_yes (c := s[pos]) (by omega)
          have hnew := hr.out.put (k := pos) (by rw [cur_length]; exact hlt') (lowB s[pos])
          have e1 : (cur lowB s.data.toList pos).set pos (lowB s[pos]) = cur lowB s.data.toList (pos + 1) := cur_next lowB s.data.toList pos hlt'
          rw [e1, hlow] at hnew
          have HN : Hid (RowIs (W.setCell ⟨w.heap.size, pos, none⟩ (.int .u8 ((s[pos].toNat : Int) + 32))) w.heap.size (cur lowB s.data.toList (pos + 1))) := hnew
          have HS : Hid ((W.iter s (pos + 1)).setCell ⟨w.heap.size, pos, none⟩ (.int .u8 ((s[pos].toNat : Int) + 32)) = (W.setCell ⟨w.heap.size, pos, none⟩ (.int .u8 ((s[pos].toNat : Int) + 32))).iter s (pos + 1)) := iter_put W s (pos + 1) w.heap.size pos _ (by omega)
          clear hnew hlow e1
          obtain ⟨hc1, hc2⟩ := hc
          go_wp2
          go_roundw
          case rel => exact ⟨pos + 1, _, by omega, low_world (by omega) HS.out, by simpa [World.setCell] using hW, hb.setCell (Nat.le_refl _) _, HN⟩
          case measure => rw [iterPos_put _ _ _ _ (by simp), ← hW]; simp; omega
        · have e1 : cur lowB s.data.toList (pos + 1) = cur lowB s.data.toList pos := cur_same lowB s.data.toList pos hlt' (lowB_no (c := s[pos]) (by omega))
          have HN : Hid (RowIs W w.heap.size (cur lowB s.data.toList (pos + 1))) := by rw [e1]; exact hr
          clear e1
          rcases (show (s[pos].toNat : Int) < 65 ∨ (65 ≤ (s[pos].toNat : Int) ∧ 90 < (s[pos].toNat : Int)) from by omega) with g | ⟨g, g'⟩
          all_goals
            clear hc
            go_wp2
            go_roundw
            case rel => exact ⟨pos + 1, W, by omega, rfl, hW, hb, HN⟩
            case measure => rw [← hW]; simp; omega
      · have hnx0 : ∀ ty, (Instr.next (.pointer (some ⟨W.heap.size, 0, none⟩)) true ty).run Tryz.prog (W.iter s pos) = _ := fun ty => run_next_any W s pos ty hp
        rw [hW] at hnx0
        have hd := (decode_high s pos hp (by omega)).1
        have hw1 := (decode_high s pos hp (by omega)).2
        have hw2 := decode_within s pos hp (by omega)
        have e1 : cur lowB s.data.toList (pos + (Utf8.decode s pos).2) = cur lowB s.data.toList pos := cur_skip lowB s.data.toList pos _ (fun j hj => by
          obtain ⟨q1, q2⟩ := decode_skip s pos hp (by omega) j hj
          have q3 : 128 ≤ (s.data.toList[pos + j]'(by rw [len_data]; exact q1)).toNat := q2
          exact ⟨by rw [len_data]; exact q1, lowB_no (by omega)⟩)
        have HN : Hid (RowIs W w.heap.size (cur lowB s.data.toList (pos + (Utf8.decode s pos).2))) := by rw [e1]; exact hr
        clear e1
        generalize (Utf8.decode s pos).1 = r at hnx0 hd
        generalize (Utf8.decode s pos).2 = p2 at hnx0 HN hw1 hw2
        have hg : 90 < (r : Int) := by omega
        have hg' : 65 ≤ (r : Int) := by omega
        go_wp2
        go_roundw
        case rel => exact ⟨pos + p2, W, hw2, rfl, hW, hb, HN⟩
        case measure => rw [← hW]; simp; omega
    · have hnx0 : ∀ ty, (Instr.next (.pointer (some ⟨W.heap.size, 0, none⟩)) true ty).run Tryz.prog (W.iter s pos) = _ := fun ty => run_next_end W s pos ty hp
      rw [hW] at hnx0
      have hback := back_low s pos hp (W.iter s pos) w.heap.size cap (fun j hj => ⟨(iter_cell W s pos w.heap.size j (by omega)).trans (hr.out j hj).1, (iter_frozen W s pos w.heap.size j (by omega)).trans (hr.out j hj).2⟩)
      go_wp2
      go_ret
      exact ⟨rfl, hb.trans ((below_iter W s pos).mono (by omega))⟩
end Go.Proofs.YtkaogmdhjcgcdaaGreatDoor
