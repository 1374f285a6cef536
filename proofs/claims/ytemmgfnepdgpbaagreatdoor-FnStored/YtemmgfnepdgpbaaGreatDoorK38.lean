/-
  A drawn moment for policy.
  Rows of fields that fit; objects that came in, later on.
  The specification's Renewed by its contract.
  Drawn objects for policy.
-/
import Derived.Test.YtemmgfnepdgpbaaGreatDoorK33
import Derived.Deep.RegionWith
import Derived.Test.YtemmgfnepdgpbaaGreatDoorK23
import Derived.Test.YtemmgfnepdgpbaaGreatDoorK30
import Derived.Test.YtemmgfnepdgpbaaGreatDoorK17
import Derived.Shelf.Abstract
import Derived.Deep.DeepCutAuto
import Derived.Test.YtemmgfnepdgpbaaGreatDoorK37
namespace Go.Proofs.YtemmgfnepdgpbaaGreatDoor
open Go.RowKit Go.Sort
set_option linter.unusedVariables false

theorem ObB.beside {w w' : World} {b c : Nat} {o : Ob} {v u : Value} (h : ObB w c o v u) (hb : Beside b w w') (hne : c ≠ b) : ObB w' c o v u := by
  have e : w'.heap[c]? = w.heap[c]? := hb.2.2.2.2 c h.hi hne
  have k : ∀ k, w'.cell? ⟨c, k, none⟩ = w.cell? ⟨c, k, none⟩ := fun k => World.cell?_of_block (a := ⟨c, k, none⟩) e
  exact ⟨(k 0).trans h.c0, (k 1).trans h.c1, (k 2).trans h.c2, (k 3).trans h.c3, (k 4).trans h.c4, (k 5).trans h.c5, (k 6).trans h.c6, (k 7).trans h.c7, fun j => (World.frozen?_of_block (a := ⟨c, j, none⟩) e).trans (h.fz j), Nat.lt_of_lt_of_le h.hi hb.2.2.2.1⟩
end Go.Proofs.YtemmgfnepdgpbaaGreatDoor
namespace Go.Proofs.YtemmgfnepdgpbaaGreatDoor
open Go.RowKit Go.Sort
set_option linter.unusedVariables false

theorem OwnsF.solid10 {w : World} {B : Nat} {v : Value} {l : List Fl} (h : OwnsF w B v l) : Solid v := by
  rcases h.2 with ⟨h0, _⟩ | ⟨g, cap, cur, hv, _⟩
  · rw [h0]; intro n c e; injection e with _ _ e; exact e.symm
  · rw [hv]; intro n c e; injection e with e _ _; cases e
theorem OwnsF.fits10 {w : World} {B : Nat} {v : Value} {l : List Fl} (h : OwnsF w B v l) (h1 : szL l ≤ 1048576) (h2 : l.length ≤ 1048576) : Fits w v l := ⟨h.fls, h1, h2, h.solid10⟩
theorem RsGot.kept10 {w w' : World} {v : Value} {r : Rs} (h : RsGot w v r) (hb : Below w.heap.size w w') : RsGot w' v r := ⟨h.1.kept hb, h.2⟩
theorem ObGot.kept {w w' : World} {v u : Value} {o : Ob} (h : ObGot w v u o) (hb : Below w.heap.size w w') : ObGot w' v u o := ⟨h.1.kept hb, h.2.1, h.2.2.1, h.2.2.2.1.kept10 hb, h.2.2.2.2⟩
/-- The two rows of fields of an object. -/
def TwoF (w : World) (v u : Value) (o : Ob) : Prop := Fls w v o.l ∧ Fls w u o.r.l
theorem TwoF.kept {w w' : World} {v u : Value} {o : Ob} (h : TwoF w v u o) (hb : Below w.heap.size w w') : TwoF w' v u o := ⟨h.1.kept hb, h.2.kept hb⟩
end Go.Proofs.YtemmgfnepdgpbaaGreatDoor
namespace Go.Proofs.YtemmgfnepdgpbaaGreatDoor
open Go.RowKit Go.Sort Go.Maps
set_option linter.unusedVariables false
set_option linter.unusedSimpArgs false

theorem OwnsF.putL10 {B g : Nat} {v : Value} {l : List Fl} : ∀ {w : World} (h : OwnsF w B v l) (hg : g < B) (vs : List Value) (i : Nat), OwnsF (putL w g vs i) B v l
  | w, h, hg, [], _ => h
  | w, h, hg, x :: vs, i => OwnsF.putL10 (h.putlow10 hg i x) hg vs (i + 1)
theorem ObB.put210 {w : World} {b : Nat} {o : Ob} {v u : Value} (h : ObB w b o v u) (s : Int) : ObB (w.setCell ⟨b, 2, none⟩ (.int .i64 s)) b ⟨o.k, o.l, ⟨s, o.r.l, o.r.b⟩, o.asked, o.got, o.ep⟩ v u where
  c0 := by rw [World.cell?_setCell_other _ _ _ _ (by simp)]; exact h.c0
  c1 := by rw [World.cell?_setCell_other _ _ _ _ (by simp)]; exact h.c1
  c2 := World.cell?_setCell_same _ _ _ h.c2
  c3 := by rw [World.cell?_setCell_other _ _ _ _ (by simp)]; exact h.c3
  c4 := by rw [World.cell?_setCell_other _ _ _ _ (by simp)]; exact h.c4
  c5 := by rw [World.cell?_setCell_other _ _ _ _ (by simp)]; exact h.c5
  c6 := by rw [World.cell?_setCell_other _ _ _ _ (by simp)]; exact h.c6
  c7 := by rw [World.cell?_setCell_other _ _ _ _ (by simp)]; exact h.c7
  fz := fun k => by rw [World.frozen?_setCell]; exact h.fz k
  hi := by rw [World.size_setCell]; exact h.hi
theorem ObB.put310 {w : World} {b : Nat} {o : Ob} {v u : Value} (h : ObB w b o v u) (l : List Fl) (x : Value) : ObB (w.setCell ⟨b, 3, none⟩ x) b ⟨o.k, o.l, ⟨o.r.s, l, o.r.b⟩, o.asked, o.got, o.ep⟩ v x where
  c0 := by rw [World.cell?_setCell_other _ _ _ _ (by simp)]; exact h.c0
  c1 := by rw [World.cell?_setCell_other _ _ _ _ (by simp)]; exact h.c1
  c2 := by rw [World.cell?_setCell_other _ _ _ _ (by simp)]; exact h.c2
  c3 := World.cell?_setCell_same _ _ _ h.c3
  c4 := by rw [World.cell?_setCell_other _ _ _ _ (by simp)]; exact h.c4
  c5 := by rw [World.cell?_setCell_other _ _ _ _ (by simp)]; exact h.c5
  c6 := by rw [World.cell?_setCell_other _ _ _ _ (by simp)]; exact h.c6
  c7 := by rw [World.cell?_setCell_other _ _ _ _ (by simp)]; exact h.c7
  fz := fun k => by rw [World.frozen?_setCell]; exact h.fz k
  hi := by rw [World.size_setCell]; exact h.hi
theorem ObB.put410 {w : World} {b : Nat} {o : Ob} {v u : Value} (h : ObB w b o v u) (t : ByteArray) : ObB (w.setCell ⟨b, 4, none⟩ (.string t)) b ⟨o.k, o.l, ⟨o.r.s, o.r.l, t⟩, o.asked, o.got, o.ep⟩ v u where
  c0 := by rw [World.cell?_setCell_other _ _ _ _ (by simp)]; exact h.c0
  c1 := by rw [World.cell?_setCell_other _ _ _ _ (by simp)]; exact h.c1
  c2 := by rw [World.cell?_setCell_other _ _ _ _ (by simp)]; exact h.c2
  c3 := by rw [World.cell?_setCell_other _ _ _ _ (by simp)]; exact h.c3
  c4 := World.cell?_setCell_same _ _ _ h.c4
  c5 := by rw [World.cell?_setCell_other _ _ _ _ (by simp)]; exact h.c5
  c6 := by rw [World.cell?_setCell_other _ _ _ _ (by simp)]; exact h.c6
  c7 := by rw [World.cell?_setCell_other _ _ _ _ (by simp)]; exact h.c7
  fz := fun k => by rw [World.frozen?_setCell]; exact h.fz k
  hi := by rw [World.size_setCell]; exact h.hi
theorem ObB.put510 {w : World} {b : Nat} {o : Ob} {v u : Value} (h : ObB w b o v u) (n : Int) : ObB (w.setCell ⟨b, 5, none⟩ (.int .i64 n)) b ⟨o.k, o.l, o.r, n, o.got, o.ep⟩ v u where
  c0 := by rw [World.cell?_setCell_other _ _ _ _ (by simp)]; exact h.c0
  c1 := by rw [World.cell?_setCell_other _ _ _ _ (by simp)]; exact h.c1
  c2 := by rw [World.cell?_setCell_other _ _ _ _ (by simp)]; exact h.c2
  c3 := by rw [World.cell?_setCell_other _ _ _ _ (by simp)]; exact h.c3
  c4 := by rw [World.cell?_setCell_other _ _ _ _ (by simp)]; exact h.c4
  c5 := World.cell?_setCell_same _ _ _ h.c5
  c6 := by rw [World.cell?_setCell_other _ _ _ _ (by simp)]; exact h.c6
  c7 := by rw [World.cell?_setCell_other _ _ _ _ (by simp)]; exact h.c7
  fz := fun k => by rw [World.frozen?_setCell]; exact h.fz k
  hi := by rw [World.size_setCell]; exact h.hi
theorem ObB.put610 {w : World} {b : Nat} {o : Ob} {v u : Value} (h : ObB w b o v u) (n : Int) : ObB (w.setCell ⟨b, 6, none⟩ (.int .i64 n)) b ⟨o.k, o.l, o.r, o.asked, n, o.ep⟩ v u where
  c0 := by rw [World.cell?_setCell_other _ _ _ _ (by simp)]; exact h.c0
  c1 := by rw [World.cell?_setCell_other _ _ _ _ (by simp)]; exact h.c1
  c2 := by rw [World.cell?_setCell_other _ _ _ _ (by simp)]; exact h.c2
  c3 := by rw [World.cell?_setCell_other _ _ _ _ (by simp)]; exact h.c3
  c4 := by rw [World.cell?_setCell_other _ _ _ _ (by simp)]; exact h.c4
  c5 := by rw [World.cell?_setCell_other _ _ _ _ (by simp)]; exact h.c5
  c6 := World.cell?_setCell_same _ _ _ h.c6
  c7 := by rw [World.cell?_setCell_other _ _ _ _ (by simp)]; exact h.c7
  fz := fun k => by rw [World.frozen?_setCell]; exact h.fz k
  hi := by rw [World.size_setCell]; exact h.hi
def dN (i : Nat) : Nat := if i = 0 then 45 else if i = 1 then 46 else if i = 2 then 47 else if i = 3 then 48 else if i = 4 then 49 else if i = 5 then 50 else if i = 6 then 51 else if i = 7 then 52 else if i = 8 then 53 else if i = 9 then 54 else if i = 10 then 55 else if i = 11 then 56 else if i = 12 then 57 else if i = 13 then 58 else i + 5000
def GN (o : Ob) (r : Rs) (asked got : Int) (va ua : Option Addr) (vc uc xc g q n0 n2 n3 n5 nr : Nat) (a4 a6 : Option Addr) (c4 c6 : Nat) (u11 u43 u44 u59 : Value) (k : Nat) (L : List Fl) (f : Fl) (i : Nat) (x : World) (v : Value) : Prop := match i with
  | 0 => v = u11
  | 1 => v = (.pointer (some ⟨n0 + 1, 1, none⟩))
  | 2 => v = (.slice (some ⟨g, q, none⟩) r.l.length xc)
  | 3 => v = (.int .i64 (k : Int))
  | 4 => v = (.pointer (some ⟨g, q + k * 2, none⟩))
  | 5 => v = (.pointer (some ⟨g, q + k * 2, none⟩))
  | 6 => v = (.string f.1)
  | 7 => OwnsF x nr v (wo L f.1)
  | 8 => v = (.pointer (some ⟨n0 + 1, 1, none⟩))
  | 9 => v = (.slice (some ⟨g, q, none⟩) r.l.length xc)
  | 10 => v = (.int .i64 (k : Int))
  | 11 => v = (.pointer (some ⟨g, q + k * 2, none⟩))
  | 12 => v = (.agg #[.string f.1, .string f.2])
  | 13 => ∃ gg, v = .slice (some ⟨gg, 0, none⟩) 1 1 ∧ x.heap[gg]? = some (.cells #[.string f.1, .string f.2] 83 (0, 0))
  | _ => True
theorem GN.keep (o : Ob) (r : Rs) (asked got : Int) (va ua : Option Addr) (vc uc xc g q n0 n2 n3 n5 nr : Nat) (a4 a6 : Option Addr) (c4 c6 : Nat) (u11 u43 u44 u59 : Value) (k : Nat) (L : List Fl) (f : Fl) {x y : World} (hb : Below x.heap.size x y) (j : Nat) (v : Value) (hj : j < 14) (h : GN o r asked got va ua vc uc xc g q n0 n2 n3 n5 nr a4 a6 c4 c6 u11 u43 u44 u59 k L f j x v) : GN o r asked got va ua vc uc xc g q n0 n2 n3 n5 nr a4 a6 c4 c6 u11 u43 u44 u59 k L f j y v := by
  rcases (show j = 0 ∨ j = 1 ∨ j = 2 ∨ j = 3 ∨ j = 4 ∨ j = 5 ∨ j = 6 ∨ j = 7 ∨ j = 8 ∨ j = 9 ∨ j = 10 ∨ j = 11 ∨ j = 12 ∨ j = 13 by omega) with rfl | rfl | rfl | rfl | rfl | rfl | rfl | rfl | rfl | rfl | rfl | rfl | rfl | rfl
  · exact h
  · exact h
  · exact h
  · exact h
  · exact h
  · exact h
  · exact h
  · exact OwnsF.kept h hb
  · exact h
  · exact h
  · exact h
  · exact h
  · exact h
  · obtain ⟨gg, h1, h2⟩ := h; exact ⟨gg, h1, (hb.block gg (Array.getElem?_eq_some_iff.1 h2).1).trans h2⟩
end Go.Proofs.YtemmgfnepdgpbaaGreatDoor
namespace Go.Proofs.YtemmgfnepdgpbaaGreatDoor
open Go.RowKit Go.Sort
set_option linter.unusedVariables false
set_option linter.unusedSimpArgs false

/-- Some fields, none large. -/
def FewG (l : List Fl) : Prop := l.length ≤ 40 ∧ ∀ f ∈ l, f.1.size ≤ 84 ∧ f.2.size ≤ 84
theorem FewF.more {m : Nat} {l : List Fl} (h : FewF m l) (hm : m ≤ 40 := by decide) : FewG l := ⟨Nat.le_trans h.1 hm, fun f hf => by have := h.2 f hf; omega⟩
theorem FewG.sz {l : List Fl} (h : FewG l) : szL l ≤ 6720 := by
  have : ∀ (l : List Fl), (∀ f ∈ l, f.1.size ≤ 84 ∧ f.2.size ≤ 84) → szL l ≤ 168 * l.length := by
    intro l
    induction l with
    | nil => intro _; exact Nat.zero_le _
    | cons f l ih =>
      intro h
      have h1 := h f (by simp)
      have h2 := ih fun g hg => h g (by simp [hg])
      have e : szL (f :: l) = szF f + szL l := by simp [szL]
      rw [e, List.length_cons]
      unfold szF
      omega
  have h2 := this l h.2
  have := h.1
  omega
/-- An object that is not large. -/
def FewO (o : Ob) : Prop := o.k.size ≤ 600 ∧ FewF 2 o.l ∧ FewG o.r.l ∧ o.r.b.size ≤ 4100 ∧ (0 ≤ o.got ∧ o.got ≤ 253402300800)
def gOb (B : Nat) (x : World) (v : Value) : Prop := ∃ o p u, v = obV o p u ∧ OwnsF x B p o.l ∧ OwnsF x B u o.r.l ∧ FewO o
theorem gOb.keep {b B : Nat} {x y : World} {v : Value} (h : gOb B x v) (hb : Beside b x y) (hB : b < B) : gOb B y v := by obtain ⟨o, p, u, h0, h1, h2, h3⟩ := h; exact ⟨o, p, u, h0, h1.beside10 hb hB, h2.beside10 hb hB, h3⟩
def frX (b n B : Nat) (gz : Int) (z5 : Value) (t : Nat → Value) : Act := { tmps := #[.pointer (some ⟨b, 0, none⟩), undef, .pointer (some ⟨n, 0, none⟩), .int .i64 gz, .pointer (some ⟨b, 0, none⟩), z5, .int .i64 gz, t 7, t 8, t 9, t 10, t 11, t 12, t 13, t 14, t 15, t 16, t 17, t 18, t 19, t 20, t 21, t 22, t 23], defers := [] }
def dX (i : Nat) : Nat := if i = 0 then 7 else if i = 1 then 8 else if i = 2 then 9 else if i = 3 then 10 else if i = 4 then 11 else if i = 5 then 12 else if i = 6 then 13 else if i = 7 then 14 else if i = 8 then 15 else if i = 9 then 16 else if i = 10 then 17 else if i = 11 then 18 else if i = 12 then 19 else if i = 13 then 20 else if i = 14 then 21 else if i = 15 then 22 else if i = 16 then 23 else i + 5000
def GX (b n B : Nat) (gz : Int) (z5 : Value) (i : Nat) (x : World) (v : Value) : Prop := match i with
  | 0 => gTabS b [⟨#[104, 47, 97]⟩, ⟨#[104, 47, 98]⟩, ⟨#[104, 47, 97, 47, 99]⟩, ⟨#[104, 47]⟩] x v
  | 1 => v = .pointer (some ⟨b, 0, none⟩)
  | 2 => gNum 4 v
  | 3 => gPtS b [⟨#[104, 47, 97]⟩, ⟨#[104, 47, 98]⟩, ⟨#[104, 47, 97, 47, 99]⟩, ⟨#[104, 47]⟩] x v
  | 4 => gTxt 5 v
  | 5 => v = .pointer (some ⟨b, 0, none⟩)
  | 6 => gFl B 2 x v
  | 7 => v = .pointer (some ⟨b, 0, none⟩)
  | 8 => gRs B x v
  | 9 => v = (.int .i64 gz)
  | 10 => v = .pointer (some ⟨b, 0, none⟩)
  | 11 => gNum 5 v
  | 12 => gInt 990 1019 v
  | 13 => v = (.int .i64 gz)
  | 14 => v = .pointer (some ⟨b, 0, none⟩)
  | 15 => gNum 5 v
  | 16 => gOb B x v
  | _ => True
theorem GX.keep (b n B : Nat) (gz : Int) (z5 : Value) {x y : World} (hb : Beside b x y) (hB : b < B) (j : Nat) (v : Value) (hj : j < 17) (h : GX b n B gz z5 j x v) : GX b n B gz z5 j y v := by
  rcases (show j = 0 ∨ j = 1 ∨ j = 2 ∨ j = 3 ∨ j = 4 ∨ j = 5 ∨ j = 6 ∨ j = 7 ∨ j = 8 ∨ j = 9 ∨ j = 10 ∨ j = 11 ∨ j = 12 ∨ j = 13 ∨ j = 14 ∨ j = 15 ∨ j = 16 by omega) with rfl | rfl | rfl | rfl | rfl | rfl | rfl | rfl | rfl | rfl | rfl | rfl | rfl | rfl | rfl | rfl | rfl
  · exact gTabS.keep h hb
  · exact h
  · exact h
  · exact gPtS.keep h hb
  · exact h
  · exact h
  · exact gFl.keep h hb hB
  · exact h
  · exact gRs.keep h hb hB
  · exact h
  · exact h
  · exact h
  · exact h
  · exact h
  · exact h
  · exact h
  · exact gOb.keep h hb hB
theorem dX_ne {i j : Nat} (hi : i < 17) (hj : j < 17) (h : j ≠ i) : dX j ≠ dX i := by
  rcases (show i = 0 ∨ i = 1 ∨ i = 2 ∨ i = 3 ∨ i = 4 ∨ i = 5 ∨ i = 6 ∨ i = 7 ∨ i = 8 ∨ i = 9 ∨ i = 10 ∨ i = 11 ∨ i = 12 ∨ i = 13 ∨ i = 14 ∨ i = 15 ∨ i = 16 by omega) with rfl | rfl | rfl | rfl | rfl | rfl | rfl | rfl | rfl | rfl | rfl | rfl | rfl | rfl | rfl | rfl | rfl <;> rcases (show j = 0 ∨ j = 1 ∨ j = 2 ∨ j = 3 ∨ j = 4 ∨ j = 5 ∨ j = 6 ∨ j = 7 ∨ j = 8 ∨ j = 9 ∨ j = 10 ∨ j = 11 ∨ j = 12 ∨ j = 13 ∨ j = 14 ∨ j = 15 ∨ j = 16 by omega) with rfl | rfl | rfl | rfl | rfl | rfl | rfl | rfl | rfl | rfl | rfl | rfl | rfl | rfl | rfl | rfl | rfl <;> first | (exact absurd rfl h) | decide
set_option maxRecDepth 100000 in
set_option maxHeartbeats 8000000 in
theorem l10DrawO (b : Nat) (sa : Option Addr) (sl sc : Nat) (w : World) (hc : Cur w b sa sl sc) :
    Calls Tryz.prog 74 #[.pointer (some ⟨b, 0, none⟩)] w fun e w' => (∃ v, e = .returned v ∧ gOb w.heap.size w' v) ∧ Cur w' b sa sl sc ∧ Beside b w w' := by
  have hbz : b < w.heap.size := hc.2.2.1
  obtain ⟨B, hB⟩ : ∃ B, B = w.heap.size + 1 := ⟨_, rfl⟩
  have hBb : b < B := by omega
  go_enter Tryz.func74, Tryz.ntmps74
  go_wp2_with fail
  refine (l1Below b sa sl sc 20 (by decide) (by decide) (w.alloc (.cells #[.string ⟨#[]⟩, .slice none 0 0, .int .i64 0, .slice none 0 0, .string ⟨#[]⟩, .int .i64 0, .int .i64 0, .int .i64 0] 28)) (hc.more9 _)).mono ?_
  rintro e w1 ⟨z, rfl, hz0, hz1, hc1, hb1⟩
  have N1 : Hid (ObB w1 w.heap.size noO (.slice none 0 0) (.slice none 0 0)) := (ObB.new w noO (.slice none 0 0) (.slice none 0 0) 28).beside hb1 (by omega)
  have B1 : Hid (Beside b w w1) := ((Beside.refl b w).more9 _).trans hb1
  have hw1 : B ≤ w1.heap.size := by have := N1.out.hi; omega
  have ew : IntKind.i64.wrap (1000 + z) = 1000 + z := by rw [IntKind.wrap_i64]; omega
  have hBx : ∀ x, SCur b sa sl sc w1 x → B ≤ x.heap.size := fun x h => by have := h.size; omega
  have hS0 : SCur b sa sl sc w1 w1.drew := ⟨hc1, ⟨rfl, rfl, rfl, Nat.le_refl _, fun _ _ _ => rfl⟩⟩
  clear hb1 hc1 hc
  go_upto_region 2 with fail
  obtain ⟨gz, hgz⟩ : ∃ gz, gz = 1000 + z := ⟨_, rfl⟩
  obtain ⟨z5, hz5⟩ : ∃ z5 : Value, z5 = .int .i64 z := ⟨_, rfl⟩
  rw [← hgz, ← hz5]
  have hg0 : 1000 ≤ gz := by omega
  have hg1 : gz ≤ 1019 := by omega
  clear hgz hz5 hz0 hz1 ew
  refine region_heads 17 mixed (by decide) (by kernel_rfl) (by kernel_rfl) (by kernel_rfl) (by kernel_rfl) (frX b w.heap.size B gz z5) dX (SCur b sa sl sc w1) (GX b w.heap.size B gz z5) (fun i j hi hj h => dX_ne hi hj h) ?put (fun _ => undef) rfl ?hS ?step ?done
  case put =>
    intro i o hi ho t v
    rcases (show i = 0 ∨ i = 1 ∨ i = 2 ∨ i = 3 ∨ i = 4 ∨ i = 5 ∨ i = 6 ∨ i = 7 ∨ i = 8 ∨ i = 9 ∨ i = 10 ∨ i = 11 ∨ i = 12 ∨ i = 13 ∨ i = 14 ∨ i = 15 ∨ i = 16 by omega) with rfl | rfl | rfl | rfl | rfl | rfl | rfl | rfl | rfl | rfl | rfl | rfl | rfl | rfl | rfl | rfl | rfl
    all_goals
      obtain rfl := Option.some.inj ho
      rfl
  case step =>
    intro i o hi ho t x hS hdep K hK
    rcases (show i = 0 ∨ i = 1 ∨ i = 2 ∨ i = 3 ∨ i = 4 ∨ i = 5 ∨ i = 6 ∨ i = 7 ∨ i = 8 ∨ i = 9 ∨ i = 10 ∨ i = 11 ∨ i = 12 ∨ i = 13 ∨ i = 14 ∨ i = 15 ∨ i = 16 by omega) with rfl | rfl | rfl | rfl | rfl | rfl | rfl | rfl | rfl | rfl | rfl | rfl | rfl | rfl | rfl | rfl | rfl
    all_goals obtain rfl := Option.some.inj ho
    · have HK : Hid (K ((frX b w.heap.size B gz z5 t).put (some 7) (.slice (some ⟨x.heap.size, 0, none⟩) 4 4)) (x.alloc (.cells (List.map Value.string [⟨#[104, 47, 97]⟩, ⟨#[104, 47, 98]⟩, ⟨#[104, 47, 97, 47, 99]⟩, ⟨#[104, 47]⟩]).toArray 9))) := hK _ _ (hS.more _) (fun j u hj hne h => GX.keep b w.heap.size B gz z5 (besAlloc b x _) hBb j u hj h) ⟨x.heap.size, rfl, newAt x _, (by have := hS.lt; omega)⟩
      unfold frX
      go_simp
      exact HK.out
    · have HK : Hid (K ((frX b w.heap.size B gz z5 t).put (some 8) (.pointer (some ⟨b, 0, none⟩))) x) := hK _ _ hS (fun j u hj hne h => h) rfl
      unfold frX
      go_simp
      exact HK.out
    · have e : t 8 = .pointer (some ⟨b, 0, none⟩) := hdep { on := 1, ground := Ground.data } (by simp) rfl
      exact step_below rfl 4 (by decide) (by decide) (.tmp 8) _ rfl e hS (fun v y k1 k2 k3 => hK v y k1 (fun j u hj hne h => GX.keep b w.heap.size B gz z5 k2 hBb j u hj h) k3)
    · have ga : gTabS b [⟨#[104, 47, 97]⟩, ⟨#[104, 47, 98]⟩, ⟨#[104, 47, 97, 47, 99]⟩, ⟨#[104, 47]⟩] x (t 7) := hdep { on := 0, ground := Ground.data } (by simp) rfl
      obtain ⟨g, ea, hT, hgb⟩ := ga
      have gc : gNum 4 (t 9) := hdep { on := 2, ground := Ground.data } (by simp) rfl
      obtain ⟨k, ec, hk⟩ := gc
      have hkI : (k : Int) < 4 := by omega
      have hk0 : ¬ (k : Int) < 0 := by omega
      have HK : Hid (K ((frX b w.heap.size B gz z5 t).put (some 10) (.pointer (some ⟨g, k, none⟩))) x) := hK _ _ hS (fun j u hj hne h => h) ⟨g, k, rfl, hk, hT, hgb⟩
      have h2 := HK.out
      unfold frX at h2 ⊢
      go_simp
      simpa [Act.put, ea, ec, hkI] using h2
    · have ga : gPtS b [⟨#[104, 47, 97]⟩, ⟨#[104, 47, 98]⟩, ⟨#[104, 47, 97, 47, 99]⟩, ⟨#[104, 47]⟩] x (t 10) := hdep { on := 3, ground := Ground.data } (by simp) rfl
      obtain ⟨g, k, ea, hk, hT, hgb⟩ := ga
      obtain ⟨z, hz0, c0⟩ : ∃ z : ByteArray, z.size ≤ 5 ∧ x.cell? ⟨g, k, none⟩ = some (.string z) := ⟨_, (by decide : ∀ s ∈ ([⟨#[104, 47, 97]⟩, ⟨#[104, 47, 98]⟩, ⟨#[104, 47, 97, 47, 99]⟩, ⟨#[104, 47]⟩] : List ByteArray), s.size ≤ 5) _ (List.getElem_mem hk), tabS_at hT hk⟩
      have HK : Hid (K ((frX b w.heap.size B gz z5 t).put (some 11) (.string z)) x) := hK _ _ hS (fun j u hj hne h => h) ⟨z, rfl, hz0⟩
      have h2 := HK.out
      unfold frX at h2 ⊢
      go_simp
      simpa [Act.put, ea, c0] using h2
    · have HK : Hid (K ((frX b w.heap.size B gz z5 t).put (some 12) (.pointer (some ⟨b, 0, none⟩))) x) := hK _ _ hS (fun j u hj hne h => h) rfl
      unfold frX
      go_simp
      exact HK.out
    · have e : t 12 = .pointer (some ⟨b, 0, none⟩) := hdep { on := 5, ground := Ground.data } (by simp) rfl
      exact step_draw1 rfl 107 (.tmp 12) _ rfl e hS (Go.Proofs.enters_of Tryz.func107 (by kernel_rfl) rfl) (fun x v => gFl B 2 x v) ((l10DrawAsks b sa sl sc x hS.1).mono fun e y ⟨⟨u, l, h0, h1, h2⟩, h3, h4⟩ => ⟨⟨u, h0, l, h1.low (hBx x hS), h2⟩, h3, h4⟩) (fun v y k1 k2 k3 => hK v y k1 (fun j u hj hne h => GX.keep b w.heap.size B gz z5 k2 hBb j u hj h) k3)
    · have HK : Hid (K ((frX b w.heap.size B gz z5 t).put (some 14) (.pointer (some ⟨b, 0, none⟩))) x) := hK _ _ hS (fun j u hj hne h => h) rfl
      unfold frX
      go_simp
      exact HK.out
    · have e : t 14 = .pointer (some ⟨b, 0, none⟩) := hdep { on := 7, ground := Ground.data } (by simp) rfl
      exact step_draw1 rfl 108 (.tmp 14) _ rfl e hS (Go.Proofs.enters_of Tryz.func108 (by kernel_rfl) rfl) (fun x v => gRs B x v) ((l10DrawR b sa sl sc x hS.1).mono fun e y ⟨⟨v, h0, r, u, h1, h2, h3⟩, h4, h5⟩ => ⟨⟨v, h0, r, u, h1, h2.low (hBx x hS), h3⟩, h4, h5⟩) (fun v y k1 k2 k3 => hK v y k1 (fun j u hj hne h => GX.keep b w.heap.size B gz z5 k2 hBb j u hj h) k3)
    · have HK : Hid (K ((frX b w.heap.size B gz z5 t).put (some 16) (.int .i64 gz)) x) := hK _ _ hS (fun j u hj hne h => h) rfl
      have h2 := HK.out
      unfold frX at h2 ⊢
      go_simp
      simpa [Act.put, Act.put] using h2
    · have HK : Hid (K ((frX b w.heap.size B gz z5 t).put (some 17) (.pointer (some ⟨b, 0, none⟩))) x) := hK _ _ hS (fun j u hj hne h => h) rfl
      unfold frX
      go_simp
      exact HK.out
    · have e : t 17 = .pointer (some ⟨b, 0, none⟩) := hdep { on := 10, ground := Ground.data } (by simp) rfl
      exact step_below rfl 5 (by decide) (by decide) (.tmp 17) _ rfl e hS (fun v y k1 k2 k3 => hK v y k1 (fun j u hj hne h => GX.keep b w.heap.size B gz z5 k2 hBb j u hj h) k3)
    · have e9 : t 16 = .int .i64 gz := hdep { on := 9, ground := Ground.data } (by simp) rfl
      have gc : gNum 5 (t 18) := hdep { on := 11, ground := Ground.data } (by simp) rfl
      obtain ⟨k, ec, hk⟩ := gc
      have ew : IntKind.i64.wrap (gz - (k : Int)) = gz - (k : Int) := by rw [IntKind.wrap_i64]; omega
      have HK : Hid (K ((frX b w.heap.size B gz z5 t).put (some 19) (.int .i64 (gz - (k : Int)))) x) := hK _ _ hS (fun j u hj hne h => h) ⟨_, rfl, by omega, by omega⟩
      have h2 := HK.out
      unfold frX at h2 ⊢
      go_simp
      simpa [Act.put, e9, ec, ew] using h2
    · have HK : Hid (K ((frX b w.heap.size B gz z5 t).put (some 20) (.int .i64 gz)) x) := hK _ _ hS (fun j u hj hne h => h) rfl
      have h2 := HK.out
      unfold frX at h2 ⊢
      go_simp
      simpa [Act.put, Act.put] using h2
    · have HK : Hid (K ((frX b w.heap.size B gz z5 t).put (some 21) (.pointer (some ⟨b, 0, none⟩))) x) := hK _ _ hS (fun j u hj hne h => h) rfl
      unfold frX
      go_simp
      exact HK.out
    · have e : t 21 = .pointer (some ⟨b, 0, none⟩) := hdep { on := 14, ground := Ground.data } (by simp) rfl
      exact step_below rfl 5 (by decide) (by decide) (.tmp 21) _ rfl e hS (fun v y k1 k2 k3 => hK v y k1 (fun j u hj hne h => GX.keep b w.heap.size B gz z5 k2 hBb j u hj h) k3)
    · have g4 : gTxt 5 (t 11) := hdep { on := 4, ground := Ground.data } (by simp) rfl
      obtain ⟨sk, e4, hk4⟩ := g4
      have g6 : gFl B 2 x (t 13) := hdep { on := 6, ground := Ground.data } (by simp) rfl
      obtain ⟨l, ho6, hl6⟩ := g6
      obtain ⟨a6, c6, e6, _, _⟩ := ho6.form
      rw [e6] at ho6
      have g8 : gRs B x (t 15) := hdep { on := 8, ground := Ground.data } (by simp) rfl
      obtain ⟨r, u, e8, ho8, hr8⟩ := g8
      obtain ⟨a8, c8, rfl, _, _⟩ := ho8.form
      unfold rsV at e8
      have g12 : gInt 990 1019 (t 19) := hdep { on := 12, ground := Ground.data } (by simp) rfl
      obtain ⟨za, e12, hz0, hz1⟩ := g12
      have e13 : t 20 = .int .i64 gz := hdep { on := 13, ground := Ground.data } (by simp) rfl
      have g15 : gNum 5 (t 22) := hdep { on := 15, ground := Ground.data } (by simp) rfl
      obtain ⟨kk, e15, hk15⟩ := g15
      have HK : Hid (K ((frX b w.heap.size B gz z5 t).put (some 23) (.agg #[.string sk, .slice a6 l.length c6, .int .i64 r.s, .slice a8 r.l.length c8, .string r.b, .int .i64 za, .int .i64 gz, .int .i64 (kk : Int)])) x) := hK _ _ hS (fun j u hj hne h => h) ⟨⟨sk, l, r, za, gz, (kk : Int)⟩, _, _, rfl, ho6, ho8, by show sk.size ≤ 600; omega, hl6, hr8.1.more, by show r.b.size ≤ 4100; have := hr8.2.2; omega, by show 0 ≤ gz ∧ gz ≤ 253402300800; omega⟩
      have h2 := HK.out
      unfold frX at h2 ⊢
      go_simp
      simpa [Act.put, e4, e6, e8, e12, e13, e15] using h2
  case hS => exact hS0
  case done =>
    intro t x hS hG
    obtain ⟨o, p, u, e23, h1, h2, h3⟩ : gOb B x (t 23) := hG 16 (by decide)
    obtain ⟨a6, c6, rfl, _, _⟩ := h1.form
    obtain ⟨a8, c8, rfl, _, _⟩ := h2.form
    have N2 : Hid (ObB x w.heap.size noO (.slice none 0 0) (.slice none 0 0)) := N1.out.beside hS.2 (by omega)
    have HP : Hid (ObB (putL x w.heap.size (obL o (.slice a6 o.l.length c6) (.slice a8 o.r.l.length c8)) 0) w.heap.size o (.slice a6 o.l.length c6) (.slice a8 o.r.l.length c8)) := N2.out.puts _ _ _
    have BP : Hid (Below w.heap.size x (putL x w.heap.size (obL o (.slice a6 o.l.length c6) (.slice a8 o.r.l.length c8)) 0)) := putL_below (Nat.le_refl _) _ 0 (Below.refl _ _)
    have VP : Hid (OwnsF (putL x w.heap.size (obL o (.slice a6 o.l.length c6) (.slice a8 o.r.l.length c8)) 0) w.heap.size (.slice a6 o.l.length c6) o.l) := (h1.putL10 (by omega) _ 0).low (by omega)
    have UP : Hid (OwnsF (putL x w.heap.size (obL o (.slice a6 o.l.length c6) (.slice a8 o.r.l.length c8)) 0) w.heap.size (.slice a8 o.r.l.length c8) o.r.l) := (h2.putL10 (by omega) _ 0).low (by omega)
    have C2 : Hid (Cur x b sa sl sc) := hS.1
    have B2 : Hid (Beside b w x) := B1.out.trans hS.2
    obtain ⟨z0, z1, z2, z3, z4, z5', z6, z7, zf, zh⟩ := N2.out
    simp only [noO, noS] at z0 z1 z2 z3 z4 z5' z6 z7
    clear hG hS h1 h2 N1 N2 B1
    unfold obV at e23
    show wpList Tryz.prog _ _ [_] _ x
    unfold frX
    rw [e23]
    clear e23
    go_wp2
    obtain ⟨p0, p1, p2, p3, p4, p5, p6, p7, pf, ph⟩ := HP.out
    have bp := BP.out
    have vp := VP.out
    have up := UP.out
    simp only [obL, putL, Nat.zero_add, Nat.reduceAdd] at p0 p1 p2 p3 p4 p5 p6 p7 bp vp up
    refine bodyPost_ret (v := obV o (.slice a6 o.l.length c6) (.slice a8 o.r.l.length c8)) (by unfold obV; simp [results, Tryz.results74, go_sem, p0, p1, p2, p3, p4, p5, p6, p7]) rfl ⟨⟨_, rfl, o, _, _, rfl, vp, up, h3⟩, C2.out.kept bp hbz, B2.out.grow10 bp (Nat.le_refl _)⟩
end Go.Proofs.YtemmgfnepdgpbaaGreatDoor
