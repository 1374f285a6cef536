/-
  A row of bytes that a call makes and appends to, one byte at a time; and the text that such a row is turned into.
  Some bytes appended to a row that a call owns, as one step of a region that draws.
  Fields in memory: slices of fields that are read, and slices of fields that a call owns.
  The contracts of Trimmed, the specification's and the program's: both answer the text without the blanks at its ends.
-/
import Derived.Test.YtemmgfnepdgpbaaGreatDoorRows
import Derived.Test.YtemmgfnepdgpbaaGreatDoorK03
import Derived.WalkKit
import Derived.WalkSpells
import Derived.Lib.OthersKept
import Derived.Deep.RegionLaw
import Derived.Deep.QuietTactic
import Derived.BigQuiet
import Derived.Test.YtemmgfnepdgpbaaGreatDoorShelfE
import Derived.Laws.Strings
namespace Go.Proofs.YtemmgfnepdgpbaaGreatDoor
open Go.RowKit

theorem Tryz.info5 : (Tryz.prog.info? 5).map (fun i => (i.zero, i.size, i.bytes)) = some (some (.int .u8 0), 1, 1) := by kernel_rfl

/-- Bytes as cells. -/
def bytesV (l : List UInt8) : List Value := l.map fun c => .int .u8 (c.toNat : Int)
theorem bytesV_snoc (l : List UInt8) (c : UInt8) : bytesV (l ++ [c]) = bytesV l ++ [.int .u8 (c.toNat : Int)] := by simp [bytesV]
/-- The value v owns the bytes l, in a block from B on. -/
def OwnsB (w : World) (B : Nat) (v : Value) (l : List UInt8) : Prop := w.ownsRow B 5 1 v l.length (bytesV l)

theorem OwnsB.alloc {w : World} {B : Nat} {v : Value} {l : List UInt8} (h : OwnsB w B v l) (o : Obj) : OwnsB (w.alloc o) B v l := World.ownsRow.alloc h o
theorem OwnsB.drew {w : World} {B : Nat} {v : Value} {l : List UInt8} (h : OwnsB w B v l) : OwnsB w.drew B v l := h
theorem OwnsB.nil (w : World) (B : Nat) : OwnsB w B (.slice none 0 0) [] := World.ownsRow_nil w B 5 1
theorem OwnsB.one (w : World) (c : UInt8) : OwnsB (w.alloc (.cells #[.int .u8 (c.toNat : Int)] 5)) w.heap.size (.slice (some ⟨w.heap.size, 0, none⟩) 1 1) [c] :=
  World.ownsRow_lit w #[.int .u8 (c.toNat : Int)] 1 (Nat.le_refl _) (by unfold maxLen; decide) rfl
theorem OwnsB.from {w : World} {B : Nat} {v : Value} {l : List UInt8} (h : OwnsB w B v l) : ∀ k, v.ownBlock = some k → B ≤ k := fun k hk => (World.ownsRow.lt h k hk).1
theorem OwnsB.low {w : World} {B B' : Nat} {v : Value} {l : List UInt8} (h : OwnsB w B v l) (hB : B' ≤ B) : OwnsB w B' v l := by
  refine ⟨h.1, ?_⟩
  rcases h.2 with h0 | ⟨g, cap, cur, hv, hb, hg, rest⟩
  · exact .inl h0
  · exact .inr ⟨g, cap, cur, hv, by omega, hg, rest⟩
/-- What was owned before is owned behind a step that keeps all blocks below n, if its own block lies there. -/
theorem OwnsB.kept {w w' : World} {B : Nat} {v : Value} {l : List UInt8} (h : OwnsB w B v l) (hb : Below w.heap.size w w') : OwnsB w' B v l := by
  refine ⟨h.1, ?_⟩
  rcases h.2 with h0 | ⟨g, cap, cur, hv, hbg, hg, rest⟩
  · exact .inl h0
  · exact .inr ⟨g, cap, cur, hv, hbg, by rw [hb.block g (Array.getElem?_eq_some_iff.1 hg).1]; exact hg, rest⟩

/-- The owned bytes as a text. -/
theorem OwnsB.text {w : World} {B : Nat} {v : Value} {l : List UInt8} (h : OwnsB w B v l) : (convert 22 9 v).run Tryz.prog w = .ok (.string ⟨l.toArray⟩) w := by
  rcases h.2 with ⟨rfl, hn⟩ | ⟨g, cap, cur, rfl, hb, hg, rest⟩
  · have e : l = [] := List.eq_nil_of_length_eq_zero hn
    subst e
    rw [run_convert_bytes_string w 22 9 5 none 0 0 Tryz.underlying22 Tryz.underlying5 Tryz.underlying9]
    rfl
  · refine run_convert_bytes_back (P := Tryz.prog) w 22 9 5 ⟨g, 0, none⟩ cap l Tryz.underlying22 Tryz.underlying5 Tryz.underlying9 (fun j hj => ?_)
    refine World.ownsRow.cells h (g := g) rfl j _ ?_
    simp [bytesV, hj]

/-- One byte appended. -/
theorem wpList_push {ops : Array Oper} {rest : List Oper} {o : Oper} {a : Act} {Q : Exit → Act → World → Prop} (w : World) (hgd : o.guard = none) (s x : Operand)
    (ho : o.op = .call { callee := .builtin .append, args := #[s, x], argTypes := #[22, 22] }) (B : Nat) (v : Value) (l : List UInt8) (n : Int) (c : UInt8) (hc : n = (c.toNat : Int)) (hs : a.eval s = v) (hown : OwnsB w B v l)
    (hx : a.eval x = .slice (some ⟨w.heap.size, 0, none⟩) 1 1) (hlen : l.length ≤ 70000000000000) (hB : B ≤ w.heap.size)
    (h : ∀ v' w', OwnsB w' B v' (l ++ [c]) → w.grownBy w' v.ownBlock → wpList Tryz.prog ops Q rest (a.put o.dst v') w') :
    wpList Tryz.prog ops Q (o :: rest) a (w.alloc (.cells #[.int .u8 n] 5)) := by
  subst hc
  obtain ⟨i0, hi, hz0, hz1, hz2⟩ := info_parts Tryz.info5
  refine wpList_append_own _ hgd s x 22 ho B 5 i0 (.int .u8 0) 1 1 Tryz.underlying22 hi hz0 hz1 hz2 rfl (by decide) v l.length (bytesV l) hs (OwnsB.alloc hown _) ⟨w.heap.size, 0, none⟩ 1 1 [.int .u8 (c.toNat : Int)] hx rfl (cell_one_new _ _ _)
    (by intro u hu; simp at hu; subst hu; rfl) (by unfold maxLen; omega) (by omega) (by simp; omega) ?_
  intro v' w' h1 h2 _
  refine h v' w' ?_ ⟨h2.os, h2.tape, h2.output, ?_, ?_⟩
  · unfold OwnsB
    rw [bytesV_snoc, List.length_append]
    exact h1
  · have := h2.size
    simp at this
    omega
  · intro k hk hne
    rw [h2.block k (by simp; omega) hne]
    exact Below.heap_alloc _ _ _ hk
end Go.Proofs.YtemmgfnepdgpbaaGreatDoor
namespace Go.Proofs.YtemmgfnepdgpbaaGreatDoor
open Go.RowKit

theorem OwnsB.empty (w : World) : OwnsB (w.alloc (.cells #[] 5)) w.heap.size (.slice (some ⟨w.heap.size, 0, none⟩) 0 0) [] :=
  World.ownsRow_lit w #[] 0 (Nat.le_refl _) (by unfold maxLen; decide) rfl
theorem addr_add (g o j : Nat) : (⟨g, o, none⟩ : Addr).add j = ⟨g, o + j, none⟩ := by
  unfold Addr.add
  by_cases e : j = 0
  · subst e; simp
  · simp [e]
/-- Some bytes appended to an owned row, as one step. -/
theorem step_own {ops : Array Oper} {o : Oper} {a : Act} {w : World} {K : Act → World → Prop} {Q : Exit → Act → World → Prop} {E : Prop} (hg : o.guard = none) (s x : Operand)
    (ho : o.op = .call { callee := .builtin .append, args := #[s, x], argTypes := #[22, 22] }) (B : Nat) (v : Value) (l : List UInt8) (hs : a.eval s = v) (hown : OwnsB w B v l)
    (ad : Addr) (c : Nat) (news : List UInt8) (hx : a.eval x = .slice (some ad) news.length c) (hnews : ∀ j (h : j < news.length), w.cell? (ad.add j) = some (.int .u8 (news[j].toNat : Int)))
    (hlen : l.length + news.length ≤ 1000000) (hB : B ≤ w.heap.size)
    (h : ∀ v' w', OwnsB w' B v' (l ++ news) → w.grownBy w' v.ownBlock → (v ≠ .slice none 0 0 → v' ≠ .slice none 0 0) → K (a.put o.dst v') w') :
    if Region.wanted o (yielded ops a.tmps) = true then Oper.wp Tryz.prog o a w K Q else E := by
  have hw : Region.wanted o (yielded ops a.tmps) = true := by simp [Region.wanted, hg]
  rw [if_pos hw]
  obtain ⟨i0, hi, hz0, hz1, hz2⟩ := info_parts Tryz.info5
  refine wp_append_own w s x 22 ho B 5 i0 (.int .u8 0) 1 1 Tryz.underlying22 hi hz0 hz1 hz2 rfl (by decide) v l.length (bytesV l) hs hown ad news.length c (bytesV news) hx (by simp [bytesV]) (fun j u hu => ?_)
    (by intro u hu; simp [bytesV] at hu; obtain ⟨c, _, rfl⟩ := hu; rfl) (by unfold maxLen; omega) (by omega) hB ?_
  · have hj : j < news.length := by
      have := (List.getElem?_eq_some_iff.1 hu).1
      simpa [bytesV] using this
    rw [hnews j hj]
    simp [bytesV, hj] at hu
    rw [hu]
  · intro v' w' h1 h2 h3
    refine h v' w' ?_ h2 (fun hv hv' => hv (h3.1 hv').1)
    unfold OwnsB bytesV
    rw [List.map_append, List.length_append]
    exact h1
end Go.Proofs.YtemmgfnepdgpbaaGreatDoor
namespace Go.Proofs.YtemmgfnepdgpbaaGreatDoor
open Go.RowKit

/-- A field: its name and its value. -/
abbrev Fl := ByteArray × ByteArray
theorem Tryz.infoF : (Tryz.prog.info? 83).map (fun i => (i.zero, i.size, i.bytes)) = some (some (.agg #[.string ⟨#[]⟩, .string ⟨#[]⟩]), 2, 32) := by kernel_rfl

/-- The slice v reads as the fields l. -/
def Fls (w : World) (v : Value) (l : List Fl) : Prop :=
  ∃ a cap, v = .slice a l.length cap ∧ l.length ≤ cap ∧ cap ≤ maxLen ∧ (0 < l.length → ∃ g o, a = some ⟨g, o, none⟩ ∧ g < w.heap.size ∧
    ∀ j (hj : j < l.length), w.cell? ⟨g, o + j * 2, none⟩ = some (.string l[j].1) ∧ w.cell? ⟨g, o + j * 2 + 1, none⟩ = some (.string l[j].2))
theorem Fls.kept {w w' : World} {v : Value} {l : List Fl} (h : Fls w v l) (hb : Below w.heap.size w w') : Fls w' v l := by
  obtain ⟨a, cap, hv, h1, h2, h3⟩ := h
  refine ⟨a, cap, hv, h1, h2, fun h0 => ?_⟩
  obtain ⟨g, o, ha, hg, hc⟩ := h3 h0
  exact ⟨g, o, ha, Nat.lt_of_lt_of_le hg hb.size, fun j hj => ⟨(hb.cell (p := ⟨g, o + j * 2, none⟩) hg).trans (hc j hj).1, (hb.cell (p := ⟨g, o + j * 2 + 1, none⟩) hg).trans (hc j hj).2⟩⟩
theorem Fls.drewN {w : World} {v : Value} {l : List Fl} (h : Fls w v l) (n : Nat) : Fls (w.drewN n) v l := h

/-! ### Slices of fields that a call owns -/
def cellsF (l : List Fl) : List Value := l.flatMap fun f => [.string f.1, .string f.2]
theorem cellsF_append (a b : List Fl) : cellsF (a ++ b) = cellsF a ++ cellsF b := by simp [cellsF]
theorem cellsF_at (l : List Fl) : ∀ j (hj : j < l.length), (cellsF l)[j * 2]? = some (.string l[j].1) ∧ (cellsF l)[j * 2 + 1]? = some (.string l[j].2) := by
  induction l with
  | nil => intro j hj; simp at hj
  | cons f l ih =>
    intro j hj
    have e : cellsF (f :: l) = .string f.1 :: .string f.2 :: cellsF l := rfl
    cases j with
    | zero => rw [e]; exact ⟨rfl, rfl⟩
    | succ j =>
      have := ih j (by simpa using hj)
      rw [e, show (j + 1) * 2 = j * 2 + 1 + 1 from by omega]
      exact this
/-- The value v owns the fields l, in a block from B on. -/
def OwnsF (w : World) (B : Nat) (v : Value) (l : List Fl) : Prop := w.ownsRow B 83 2 v l.length (cellsF l)
theorem OwnsF.born (w : World) : OwnsF (w.alloc (.cells #[] 83)) w.heap.size (.slice (some ⟨w.heap.size, 0, none⟩) 0 0) [] :=
  World.ownsRow_lit w #[] 0 (Nat.le_refl _) (by unfold maxLen; decide) rfl
theorem OwnsF.alloc {w : World} {B : Nat} {v : Value} {l : List Fl} (h : OwnsF w B v l) (o : Obj) : OwnsF (w.alloc o) B v l := World.ownsRow.alloc h o
theorem OwnsF.drew {w : World} {B : Nat} {v : Value} {l : List Fl} (h : OwnsF w B v l) : OwnsF w.drew B v l := h
theorem OwnsF.drewN {w : World} {B : Nat} {v : Value} {l : List Fl} (h : OwnsF w B v l) (n : Nat) : OwnsF (w.drewN n) B v l := h
theorem OwnsF.kept {w w' : World} {B : Nat} {v : Value} {l : List Fl} (h : OwnsF w B v l) (hb : Below w.heap.size w w') : OwnsF w' B v l := by
  refine ⟨h.1, ?_⟩
  rcases h.2 with h0 | ⟨g, cap, cur, hv, hbg, hg, rest⟩
  · exact .inl h0
  · exact .inr ⟨g, cap, cur, hv, hbg, by rw [hb.block g (Array.getElem?_eq_some_iff.1 hg).1]; exact hg, rest⟩
theorem OwnsF.from {w : World} {B : Nat} {v : Value} {l : List Fl} (h : OwnsF w B v l) : ∀ k, v.ownBlock = some k → B ≤ k := fun k hk => (World.ownsRow.lt h k hk).1
theorem OwnsF.under {w : World} {B : Nat} {v : Value} {l : List Fl} (h : OwnsF w B v l) : ∀ k, v.ownBlock = some k → k < w.heap.size := fun k hk => (World.ownsRow.lt h k hk).2
theorem OwnsF.low {w : World} {B B' : Nat} {v : Value} {l : List Fl} (h : OwnsF w B v l) (hB : B' ≤ B) : OwnsF w B' v l := by
  refine ⟨h.1, ?_⟩
  rcases h.2 with h0 | ⟨g, cap, cur, hv, hb, hg, rest⟩
  · exact .inl h0
  · exact .inr ⟨g, cap, cur, hv, by omega, hg, rest⟩
theorem OwnsF.fls {w : World} {B : Nat} {v : Value} {l : List Fl} (h : OwnsF w B v l) : Fls w v l := by
  have hh := h
  rcases h.2 with ⟨rfl, h0⟩ | ⟨g, cap, cur, rfl, hb, hg, hc, hm, rest⟩
  · exact ⟨none, 0, by rw [h0], by omega, Nat.zero_le _, fun h1 => by omega⟩
  · refine ⟨some ⟨g, 0, none⟩, cap, rfl, hc, hm, fun _ => ⟨g, 0, rfl, (Array.getElem?_eq_some_iff.1 hg).1, fun j hj => ?_⟩⟩
    obtain ⟨c1, c2⟩ := cellsF_at l j hj
    have k1 := World.ownsRow.cells hh (g := g) rfl (j * 2) _ c1
    have k2 := World.ownsRow.cells hh (g := g) rfl (j * 2 + 1) _ c2
    rw [addr_add] at k1 k2
    exact ⟨k1, k2⟩
theorem OwnsF.form {w : World} {B : Nat} {v : Value} {l : List Fl} (h : OwnsF w B v l) : ∃ a cap, v = .slice a l.length cap ∧ l.length ≤ cap ∧ cap ≤ maxLen := by
  rcases h.2 with ⟨rfl, h0⟩ | ⟨g, cap, cur, rfl, hb, hg, hc, hm, rest⟩
  · exact ⟨none, 0, by rw [h0], by omega, Nat.zero_le _⟩
  · exact ⟨_, cap, rfl, hc, hm⟩
theorem OwnsF.at {w : World} {B g n cap : Nat} {l : List Fl} (h : OwnsF w B (.slice (some ⟨g, 0, none⟩) n cap) l) (_hn : n = l.length) (j : Nat) (hj : j < l.length) : w.cell? ⟨g, j * 2, none⟩ = some (.string l[j].1) ∧ w.cell? ⟨g, j * 2 + 1, none⟩ = some (.string l[j].2) := by
  obtain ⟨c1, c2⟩ := cellsF_at l j hj
  have k1 := World.ownsRow.cells h (g := g) rfl (j * 2) _ c1
  have k2 := World.ownsRow.cells h (g := g) rfl (j * 2 + 1) _ c2
  rw [addr_add, Nat.zero_add] at k1 k2
  exact ⟨k1, k2⟩
/-- One field appended. -/
theorem wpList_pushF {ops : Array Oper} {rest : List Oper} {o : Oper} {a : Act} {Q : Exit → Act → World → Prop} (w : World) (hgd : o.guard = none) (s x : Operand)
    (ho : o.op = .call { callee := .builtin .append, args := #[s, x], argTypes := #[24, 24] }) (B : Nat) (v : Value) (l : List Fl) (f : Fl) (hs : a.eval s = v) (hown : OwnsF w B v l)
    (hx : a.eval x = .slice (some ⟨w.heap.size, 0, none⟩) 1 1) (hlen : l.length ≤ 1000000000000) (hB : B ≤ w.heap.size)
    (h : ∀ v' w', OwnsF w' B v' (l ++ [f]) → w.grownBy w' v.ownBlock → wpList Tryz.prog ops Q rest (a.put o.dst v') w') :
    wpList Tryz.prog ops Q (o :: rest) a (w.alloc (.cells #[.string f.1, .string f.2] 83)) := by
  obtain ⟨i0, hi, hz0, hz1, hz2⟩ := info_parts Tryz.infoF
  refine wpList_append_own _ hgd s x 24 ho B 83 i0 (.agg #[.string ⟨#[]⟩, .string ⟨#[]⟩]) 2 32 Tryz.underlying24 hi hz0 hz1 hz2 rfl (by decide) v l.length (cellsF l) hs (OwnsF.alloc hown _) ⟨w.heap.size, 0, none⟩ 1 1 [.string f.1, .string f.2] hx rfl ?_
    (by intro u hu; simp at hu; rcases hu with rfl | rfl <;> rfl) (by unfold maxLen; omega) (by omega) (by simp; omega) ?_
  · intro j u hu
    rw [addr_add, Nat.zero_add, World.cell?_alloc_mark]
    simpa using hu
  intro v' w' h1 h2 h3
  refine h v' w' ?_ ⟨h2.os, h2.tape, h2.output, ?_, ?_⟩
  · unfold OwnsF
    rw [cellsF_append, List.length_append]
    exact h1
  · have := h2.size
    simp at this
    omega
  · intro k hk hne
    rw [h2.block k (by simp; omega) hne]
    exact Below.heap_alloc _ _ _ hk
theorem cellsF_set2 (l : List Fl) (c : ByteArray) : ∀ k (hk : k < l.length), (cellsF l).set (k * 2 + 1) (.string c) = cellsF (l.set k (l[k].1, c)) := by
  induction l with
  | nil => intro k hk; simp at hk
  | cons f l ih =>
    intro k hk
    have e : ∀ (f : Fl) (l : List Fl), cellsF (f :: l) = .string f.1 :: .string f.2 :: cellsF l := fun _ _ => rfl
    cases k with
    | zero => simp [e]
    | succ k =>
      have := ih k (by simpa using hk)
      rw [e, show (k + 1) * 2 + 1 = k * 2 + 1 + 1 + 1 from by omega]
      simp only [List.set_cons_succ, List.getElem_cons_succ, e]
      rw [this]
theorem OwnsF.put2 {w : World} {B g cap n : Nat} {l : List Fl} (hn : n = l.length) (h : OwnsF w B (.slice (some ⟨g, 0, none⟩) n cap) l) {k : Nat} (hk : k < l.length) (c : ByteArray) : OwnsF (w.setCell ⟨g, k * 2 + 1, none⟩ (.string c)) B (.slice (some ⟨g, 0, none⟩) n cap) (l.set k (l[k].1, c)) := by
  subst hn
  have h2 := (World.ownsRow.stored h (k * 2 + 1) (.string c)).1
  unfold OwnsF
  rw [List.length_set, ← cellsF_set2 l c k hk]
  exact h2
theorem OwnsF.free {w : World} {B g n cap : Nat} {l : List Fl} (hn : n = l.length) (h : OwnsF w B (.slice (some ⟨g, 0, none⟩) n cap) l) (j : Nat) : w.frozen? ⟨g, j, none⟩ = false := by
  subst hn
  exact World.ownsRow.frozenAt h j
/-! ### How large -/
def szF (f : Fl) : Nat := f.1.size + f.2.size
def szL (l : List Fl) : Nat := (l.map szF).sum
theorem szL_nil : szL [] = 0 := rfl
theorem szL_append (a b : List Fl) : szL (a ++ b) = szL a + szL b := by simp [szL]
theorem szL_next {l : List Fl} {k : Nat} (hk : k < l.length) : szL (l.take (k + 1)) = szL (l.take k) + (l[k].1.size + l[k].2.size) := by
  rw [List.take_succ_eq_append_getElem hk, szL_append]; simp [szL, szF]
theorem szL_take (l : List Fl) (k : Nat) : szL (l.take k) ≤ szL l := by
  have := szL_append (l.take k) (l.drop k)
  rw [List.take_append_drop] at this
  omega
theorem szL_at {l : List Fl} {k : Nat} (hk : k < l.length) : l[k].1.size + l[k].2.size ≤ szL l := by
  have h1 := szL_next hk
  have h2 := szL_take l (k + 1)
  omega

end Go.Proofs.YtemmgfnepdgpbaaGreatDoor
namespace Go.Proofs.YtemmgfnepdgpbaaGreatDoor
open Go.RowKit

/-- A blank or a tab. -/
def blank (c : UInt8) : Bool := [32, 9].contains c
def ltr (l : List UInt8) : List UInt8 := l.dropWhile blank
def rtr (l : List UInt8) : List UInt8 := (l.reverse.dropWhile blank).reverse
theorem ltr_yes {c : UInt8} (l : List UInt8) (h : blank c = true) : ltr (c :: l) = ltr l := by simp [ltr, h]
theorem ltr_no {c : UInt8} (l : List UInt8) (h : blank c = false) : ltr (c :: l) = c :: l := by simp [ltr, h]
theorem rtr_yes {c : UInt8} (l : List UInt8) (h : blank c = true) : rtr (l ++ [c]) = rtr l := by simp [rtr, h]
theorem rtr_no {c : UInt8} (l : List UInt8) (h : blank c = false) : rtr (l ++ [c]) = l ++ [c] := by simp [rtr, h]
theorem rtr_cons (c : UInt8) (l : List UInt8) : rtr (c :: l) = if rtr l = [] then (if blank c = true then [] else [c]) else c :: rtr l := by
  unfold rtr
  rw [List.reverse_cons, List.dropWhile_append]
  by_cases h : (l.reverse.dropWhile blank) = []
  · rw [h]
    cases hb : blank c <;> simp [hb]
  · have h2 : (l.reverse.dropWhile blank).isEmpty = false := by simpa using h
    rw [h2]
    simp [h]
theorem trim_swap (l : List UInt8) : rtr (ltr l) = ltr (rtr l) := by
  induction l with
  | nil => rfl
  | cons c l ih =>
    cases hb : blank c with
    | true =>
      rw [ltr_yes l hb, ih, rtr_cons]
      split
      · rename_i h0; rw [h0]
      · rw [ltr_yes _ hb]
    | false =>
      rw [ltr_no l hb, rtr_cons]
      split
      · rw [if_neg (by simp [hb]), ltr_no _ hb]
      · rw [ltr_no _ hb]
/-- The text without blanks at its ends. -/
def trimB (s : ByteArray) : ByteArray := ⟨(rtr (ltr s.data.toList)).toArray⟩
theorem trimB_lib (s : ByteArray) : (⟨(Lib.trimS s.data.toList [32, 9]).toArray⟩ : ByteArray) = trimB s := by
  unfold trimB
  rw [trim_swap]
  rfl
theorem ltr_length (l : List UInt8) : (ltr l).length ≤ l.length := List.dropWhile_sublist _ |>.length_le
theorem rtr_length (l : List UInt8) : (rtr l).length ≤ l.length := by
  unfold rtr
  rw [List.length_reverse]
  have := (List.dropWhile_sublist blank (l := l.reverse)).length_le
  rw [List.length_reverse] at this
  exact this
theorem trimB_size (s : ByteArray) : (trimB s).size ≤ s.size := by
  have h1 := rtr_length (ltr s.data.toList)
  have h2 := ltr_length s.data.toList
  have h3 : s.data.toList.length = s.size := by simp
  have h4 : (trimB s).size = (rtr (ltr s.data.toList)).length := by show (rtr (ltr s.data.toList)).toArray.size = _; simp
  omega

theorem isBlank (b : UInt8) (w : World) : Calls Tryz.prog 128 #[.int .u8 (b.toNat : Int)] w fun e w' => e = .returned (.bool (blank b)) ∧ w = w' := by
  by_cases h1 : (b.toNat : Int) = 32
  · have e : blank b = true := by
      have : b = 32 := UInt8.toNat_inj.1 (by show b.toNat = 32; omega)
      subst this; rfl
    rw [e]
    have hq : ((b.toNat : Int) == 32) = true := by simp [h1]
    clear h1 e
    go_enter Tryz.func128, Tryz.ntmps128
    go_wp2
    go_ret
    exact ⟨rfl, rfl⟩
  · have hq : ((b.toNat : Int) == 32) = false := by simp [h1]
    by_cases h2 : (b.toNat : Int) = 9
    · have e : blank b = true := by
        have : b = 9 := UInt8.toNat_inj.1 (by show b.toNat = 9; omega)
        subst this; rfl
      rw [e]
      have hq2 : ((b.toNat : Int) == 9) = true := by simp [h2]
      clear h1 h2 e
      go_enter Tryz.func128, Tryz.ntmps128
      go_wp2
      go_ret
      exact ⟨rfl, rfl⟩
    · have e : blank b = false := by
        cases hk : blank b with
        | false => rfl
        | true =>
          unfold blank at hk
          simp at hk
          rcases hk with rfl | rfl
          · exact absurd rfl h1
          · exact absurd rfl h2
      rw [e]
      have hq2 : ((b.toNat : Int) == 9) = false := by simp [h2]
      clear h1 h2 e
      go_enter Tryz.func128, Tryz.ntmps128
      go_wp2
      go_ret
      exact ⟨rfl, rfl⟩

theorem ret_strT {a b : ByteArray} (h : a = b) : Ending.returned (.string a) = .returned (.string b) := by rw [h]
def strLen : Value → Nat | .string s => s.size | _ => 0

theorem full {x : ByteArray} (h : 0 < x.size) : ¬ x.toList = [] := by
  rw [ByteArray.toList_eq]
  intro e
  have h3 : x.data.toList.length = x.size := by simp
  rw [e] at h3
  simp at h3
  omega
theorem void {x : ByteArray} (h : ¬ 0 < x.size) : x.toList = [] := by
  rw [ByteArray.toList_eq]
  have h3 : x.data.toList.length = x.size := by simp
  exact List.eq_nil_of_length_eq_zero (by omega)
theorem list_of (x : ByteArray) (h : 0 < x.size) : x.data.toList = x[0] :: (x.extract 1 x.size).data.toList := by
  have h3 : x.data.toList.length = x.size := by simp
  have e : (x.extract 1 x.size).data.toList = x.data.toList.drop 1 := by
    rw [ByteArray.data_extract, Array.toList_extract]
    show (x.data.toList.drop 1).take (x.size - 1) = _
    exact List.take_of_length_le (by rw [List.length_drop]; omega)
  rw [e]
  exact List.drop_eq_getElem_cons (l := x.data.toList) (i := 0) (by omega)
theorem list_to (x : ByteArray) (h : 0 < x.size) : x.data.toList = (x.extract 0 (x.size - 1)).data.toList ++ [x[x.size - 1]] := by
  have h3 : x.data.toList.length = x.size := by simp
  have e : (x.extract 0 (x.size - 1)).data.toList = x.data.toList.take (x.size - 1) := by
    rw [ByteArray.data_extract, Array.toList_extract]
    rfl
  rw [e]
  have e2 := List.take_succ_eq_append_getElem (l := x.data.toList) (i := x.size - 1) (by omega)
  rw [show x.size - 1 + 1 = x.size from by omega, List.take_of_length_le (by omega)] at e2
  exact e2
theorem size_of (x : ByteArray) : (x.extract 1 x.size).size = x.size - 1 := by simp
theorem size_to (x : ByteArray) : (x.extract 0 (x.size - 1)).size = x.size - 1 := by simp

theorem trimB_is {y s : ByteArray} (h : y.data.toList = rtr (ltr s.data.toList)) : y = trimB s := by
  unfold trimB
  have : y.data = (rtr (ltr s.data.toList)).toArray := Array.ext' (by rw [h])
  cases y
  exact congrArg _ this

set_option maxHeartbeats 400000 in
theorem specTrim (s : ByteArray) (w : World) (hs : s.size ≤ 1048576) :
    Calls Tryz.prog 95 #[.string s] w fun e w' => e = .returned (.string (trimB s)) ∧ w = w' := by
  go_enter Tryz.func95, Tryz.ntmps95
  go_wp2
  go_loop [0] (fun v => ∃ x : ByteArray, v = .string x ∧ x.size ≤ s.size ∧ Hid (ltr x.data.toList = ltr s.data.toList)) (fun v => strLen v)
  case atStart => exact ⟨s, rfl, Nat.le_refl _, rfl⟩
  case round =>
    obtain ⟨x, rfl, hx, hl⟩ := hrel
    by_cases h0 : 0 < x.size
    · have hfull := full h0
      have hfe : x.toList.isEmpty = false := by simpa using hfull
      cases hb : blank x[0] with
      | true =>
        have HL : Hid (ltr (x.extract 1 x.size).data.toList = ltr s.data.toList) := by
          show ltr (x.extract 1 x.size).data.toList = ltr s.data.toList
          rw [← hl.out, list_of x h0, ltr_yes _ hb]
        have hsz := size_of x
        have HZ : Hid ((x.extract 1 x.size).size = x.size - 1) := hsz
        clear hsz
        go_wp2_with (go_at_call 128; refine (isBlank _ _).mono ?_; rintro e w' ⟨rfl, rfl⟩)
        go_round
        case rel => exact ⟨_, rfl, by rw [HZ.out]; omega, HL⟩
        case measure => show (x.extract 1 x.size).size < x.size; rw [HZ.out]; omega
      | false =>
        have HL : Hid (x.data.toList = ltr s.data.toList) := by
          show x.data.toList = ltr s.data.toList
          rw [← hl.out, list_of x h0, ltr_no _ hb]
        go_wp2_with (go_at_call 128; refine (isBlank _ _).mono ?_; rintro e w' ⟨rfl, rfl⟩)
        clear hfull hfe hb
        go_loop [0] (fun v => ∃ y : ByteArray, v = .string y ∧ y.size ≤ s.size ∧ Hid (rtr y.data.toList = rtr (ltr s.data.toList))) (fun v => strLen v)
        case atStart => exact ⟨x, rfl, hx, by rw [HL.out]; exact rfl⟩
        case round =>
          clear HL hl hx
          obtain ⟨y, rfl, hy, hr⟩ := hrel
          by_cases k0 : 0 < y.size
          · have kfull := full k0
            have kfe : y.toList.isEmpty = false := by simpa using kfull
            cases kb : blank y[y.size - 1] with
            | true =>
              have HR : Hid (rtr (y.extract 0 (y.size - 1)).data.toList = rtr (ltr s.data.toList)) := by
                show rtr (y.extract 0 (y.size - 1)).data.toList = rtr (ltr s.data.toList)
                rw [← hr.out, list_to y k0, rtr_yes _ kb]
              have HZ : Hid ((y.extract 0 (y.size - 1)).size = y.size - 1) := size_to y
              go_wp2_with (go_at_call 128; refine (isBlank _ _).mono ?_; rintro e w' ⟨rfl, rfl⟩)
              go_round
              case rel => exact ⟨_, rfl, by rw [HZ.out]; omega, HR⟩
              case measure => show (y.extract 0 (y.size - 1)).size < y.size; rw [HZ.out]; omega
            | false =>
              have HR : Hid (y = trimB s) := by
                show y = trimB s
                refine trimB_is ?_
                rw [← hr.out, list_to y k0, rtr_no _ kb]
              go_wp2_with (go_at_call 128; refine (isBlank _ _).mono ?_; rintro e w' ⟨rfl, rfl⟩)
              go_ret
              exact ⟨ret_strT HR.out, rfl⟩
          · have knil := void k0
            have HR : Hid (y = trimB s) := by
              show y = trimB s
              refine trimB_is ?_
              rw [← hr.out, ← ByteArray.toList_eq, knil]; rfl
            go_wp2
            go_ret
            exact ⟨ret_strT HR.out, rfl⟩
    · have hnil := void h0
      have HL : Hid (x.data.toList = ltr s.data.toList) := by
        show x.data.toList = ltr s.data.toList
        rw [← hl.out, ← ByteArray.toList_eq, hnil]; rfl
      go_wp2
      clear hnil h0
      go_loop [0] (fun v => ∃ y : ByteArray, v = .string y ∧ y.size ≤ s.size ∧ Hid (rtr y.data.toList = rtr (ltr s.data.toList))) (fun v => strLen v)
      case atStart => exact ⟨x, rfl, hx, by rw [HL.out]; exact rfl⟩
      case round =>
        clear HL hl hx
        obtain ⟨y, rfl, hy, hr⟩ := hrel
        by_cases k0 : 0 < y.size
        · have kfull := full k0
          have kfe : y.toList.isEmpty = false := by simpa using kfull
          cases kb : blank y[y.size - 1] with
          | true =>
            have HR : Hid (rtr (y.extract 0 (y.size - 1)).data.toList = rtr (ltr s.data.toList)) := by
              show rtr (y.extract 0 (y.size - 1)).data.toList = rtr (ltr s.data.toList)
              rw [← hr.out, list_to y k0, rtr_yes _ kb]
            have HZ : Hid ((y.extract 0 (y.size - 1)).size = y.size - 1) := size_to y
            go_wp2_with (go_at_call 128; refine (isBlank _ _).mono ?_; rintro e w' ⟨rfl, rfl⟩)
            go_round
            case rel => exact ⟨_, rfl, by rw [HZ.out]; omega, HR⟩
            case measure => show (y.extract 0 (y.size - 1)).size < y.size; rw [HZ.out]; omega
          | false =>
            have HR : Hid (y = trimB s) := by
              show y = trimB s
              refine trimB_is ?_
              rw [← hr.out, list_to y k0, rtr_no _ kb]
            go_wp2_with (go_at_call 128; refine (isBlank _ _).mono ?_; rintro e w' ⟨rfl, rfl⟩)
            go_ret
            exact ⟨ret_strT HR.out, rfl⟩
        · have knil := void k0
          have HR : Hid (y = trimB s) := by
            show y = trimB s
            refine trimB_is ?_
            rw [← hr.out, ← ByteArray.toList_eq, knil]; rfl
          go_wp2
          go_ret
          exact ⟨ret_strT HR.out, rfl⟩

theorem implTrim (s : ByteArray) (w : World) (hs : s.size ≤ 1048576) :
    Calls Tryz.prog 119 #[.string s] w fun e w' => e = .returned (.string (trimB s)) ∧ Below w.heap.size w w' := by
  have hz := trimB_size s
  have ht := Tryz.strings_Trim s w (by omega)
  rw [trimB_lib] at ht
  generalize trimB s = t at ht hz
  go_enter Tryz.func119, Tryz.ntmps119
  go_wp2_with (first | (go_at_call 142; refine ht.mono ?_; rintro e w1 ⟨rfl, hb1⟩) | (go_at_call 131; refine (Tryz.stringslite_Clone _ _ (by omega)).mono ?_; rintro e w2 ⟨rfl, hb2⟩) | go_in)
  go_ret
  exact ⟨rfl, hb1.trans (hb2.mono hb1.size)⟩
end Go.Proofs.YtemmgfnepdgpbaaGreatDoor
