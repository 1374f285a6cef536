/-
  How many items a text has at most, and what is kept of an owned slice where another one is marked.
  A slice of fields that came in, opened.
  The contracts of the specification's line and of the program's field of a line.
-/
import Derived.Test.YtemmgfnepdgpbaaGreatDoorG05
import Derived.ScopeJumps
import Derived.WalkMore
import Derived.Test.YtemmgfnepdgpbaaGreatDoorG16
import Derived.Test.YtemmgfnepdgpbaaGreatDoorG04
import Derived.Deep.SlicePairs
import Derived.ChangeArms
import Derived.Lib.LaidU8
import Derived.Test.YtemmgfnepdgpbaaGreatDoorG12
import Derived.Test.YtemmgfnepdgpbaaGreatDoorG20
import Derived.Laws.Append
import Derived.Shelf.Abstract
import Derived.Test.YtemmgfnepdgpbaaGreatDoorG08
import Derived.Laws.AppendOwnNone
import Derived.Test.YtemmgfnepdgpbaaGreatDoorShelfC
namespace Go.Proofs.YtemmgfnepdgpbaaGreatDoor
open Go.RowKit

theorem OwnsS.but {w w' : World} {B g : Nat} {v : Value} {l : List ByteArray} (h : OwnsS w B v l) (hb : But g w w') (hne : ∀ k, v.ownBlock = some k → k ≠ g) : OwnsS w' B v l := by
  obtain ⟨⟨g0, cap, hv, hbg, hg⟩, h1, h2⟩ := h
  refine ⟨⟨g0, cap, hv, hbg, Nat.lt_of_lt_of_le hg hb.2.2.2.1⟩, h1, ?_⟩
  rcases h2 with h0 | ⟨g', cap', cur, hv', hb', hg', rest⟩
  · exact .inl h0
  · refine .inr ⟨g', cap', cur, hv', hb', ?_, rest⟩
    rw [hb.2.2.2.2 g' (Array.getElem?_eq_some_iff.1 hg').1 (hne g' (by rw [hv']; rfl))]
    exact hg'
theorem But.low {g B : Nat} {w w' : World} (h : But g w w') (hB : B ≤ g) (hs : B ≤ w.heap.size) : Below B w w' :=
  ⟨h.1, h.2.1, h.2.2.1, h.2.2.2.1, fun k hk => h.2.2.2.2 k (by omega) (by omega)⟩
theorem OwnsS.under {w : World} {B : Nat} {v : Value} {l : List ByteArray} (h : OwnsS w B v l) : ∀ k, v.ownBlock = some k → k < w.heap.size := fun k hk => (World.ownsRow.lt h.2 k hk).2
end Go.Proofs.YtemmgfnepdgpbaaGreatDoor
namespace Go.Proofs.YtemmgfnepdgpbaaGreatDoor
open Go.RowKit Go.ChangeShapes Go.WideShapes

theorem cell_lt {w : World} {b o : Nat} {v : Value} (h : w.cell? ⟨b, o, none⟩ = some v) : b < w.heap.size := by
  cases e : w.heap[b]? with
  | none => simp [World.cell?, e] at h
  | some x => exact (Array.getElem?_eq_some_iff.1 e).1
end Go.Proofs.YtemmgfnepdgpbaaGreatDoor
namespace Go.Proofs.YtemmgfnepdgpbaaGreatDoor
open Go.RowKit Go.Sort

/-- What the program's field of a line answers. -/
def rdFE : Option Fl → Value
  | none => .tuple #[.agg #[.string ⟨#[]⟩, .string ⟨#[]⟩], .bool false]
  | some f => .tuple #[.agg #[.string f.1, .string f.2], .bool true]
theorem box_cells {w : World} {b : Nat} {p q : ByteArray} (h : w.heap[b]? = some (.cells #[.string p, .string q] 83)) : w.cell? ⟨b, 0, none⟩ = some (.string p) ∧ w.cell? ⟨b, 1, none⟩ = some (.string q) ∧ w.frozen? ⟨b, 0, none⟩ = false ∧ w.frozen? ⟨b, 1, none⟩ = false :=
  ⟨by rw [cell_of_row w _ 0 _ _ _ h]; rfl, by rw [cell_of_row w _ 1 _ _ _ h]; rfl, frozen_of_row w b 0 _ _ h, frozen_of_row w b 1 _ _ h⟩
theorem below_block {w w' : World} {b : Nat} {o : Obj} (h : w.heap[b]? = some o) (hb : Below w.heap.size w w') : w'.heap[b]? = some o := by
  rw [hb.block b (Array.getElem?_eq_some_iff.1 h).1]; exact h
theorem len_app {x a b : List UInt8} (h : colL x = some (a, b)) : a.length + b.length + 1 = x.length := by
  rw [(colL_is h).1]; simp; omega
theorem txt_size (l : List UInt8) : (⟨l.toArray⟩ : ByteArray).size = l.length := by show l.toArray.size = _; simp

set_option maxHeartbeats 2000000 in
theorem implRdF (x : ByteArray) (m : Int) (w : World) (hm : w.cell? ⟨3, 0, none⟩ = some (.int .i64 m)) (hx : x.size ≤ 1048576) :
    Calls Tryz.prog 103 #[.string x] w fun e w' => e = .returned (rdFE (rdF x.data.toList)) ∧ Below w.heap.size w w' := by
  have b0 : (w.alloc (.cells #[.string ⟨#[]⟩, .string ⟨#[]⟩] 83)).heap[w.heap.size]? = some (.cells #[.string ⟨#[]⟩, .string ⟨#[]⟩] 83) := heap_alloc_new w _
  have bl := box_lt w (.cells #[.string ⟨#[]⟩, .string ⟨#[]⟩] 83)
  have hba := (Below.refl w.heap.size w).alloc (Nat.le_refl _) (.cells #[.string ⟨#[]⟩, .string ⟨#[]⟩] 83)
  have hm0 := ((Below.refl w.heap.size w).alloc (Nat.le_refl _) (.cells #[.string ⟨#[]⟩, .string ⟨#[]⟩] 83)).cell (p := ⟨3, 0, none⟩) (cell_lt hm) |>.trans hm
  have hxl : x.data.toList.length = x.size := by simp
  have hcut := Tryz.strings_Cut x ⟨#[58]⟩ m _ (by omega) hm0
  rw [show (⟨#[58]⟩ : ByteArray).data.toList = [58] from rfl, cut_col] at hcut
  cases hc : colL x.data.toList with
  | none =>
    rw [hc] at hcut
    rw [rdF_col hc]
    simp only [text_of] at hcut
    go_enter Tryz.func103, Tryz.ntmps103
    go_wp2_with fail
    refine hcut.mono ?_
    rintro e w1 ⟨rfl, q, rfl⟩
    go_wp2_with fail
    refine (clone x _ hx).mono ?_
    rintro e w2 ⟨rfl, hb2⟩
    go_wp2_with fail
    refine (implTrim ⟨#[]⟩ _ (by decide)).mono ?_
    rintro e w3 ⟨rfl, hb3⟩
    have d3 := below_block (below_block (show ((w.alloc (.cells #[.string ⟨#[]⟩, .string ⟨#[]⟩] 83)).drewN q).heap[w.heap.size]? = _ from b0) hb2) hb3
    have hb03 : Below w.heap.size w w3 := (hba.trans ((show Below (w.alloc (.cells #[.string ⟨#[]⟩, .string ⟨#[]⟩] 83)).heap.size (w.alloc (.cells #[.string ⟨#[]⟩, .string ⟨#[]⟩] 83)) w2 from ⟨hb2.os, hb2.tape, hb2.output, hb2.size, hb2.block⟩).mono (Nat.le_of_lt bl))).trans (hb3.mono (Nat.le_trans (Nat.le_of_lt bl) hb2.size))
    have d4 := below_block d3 ((Below.refl w3.heap.size w3).alloc (Nat.le_refl _) (.cells #[.string x, .string (trimB ⟨#[]⟩)] 83))
    have hb04 := hb03.alloc hb03.size (.cells #[.string x, .string (trimB ⟨#[]⟩)] 83)
    obtain ⟨c0, c1, f0, f1⟩ := box_cells d4
    clear b0 d3 d4 hb2 hb3 hb03 hcut hba
    go_wp2
    refine bodyPost_ret (v := .tuple #[.agg #[.string ⟨#[]⟩, .string ⟨#[]⟩], .bool false]) (by simp [results, Tryz.results103, go_sem, c0, c1]) rfl ⟨rfl, (hb04.setCell (Nat.le_refl _) _).setCell (Nat.le_refl _) _⟩
  | some p =>
    obtain ⟨a, b⟩ := p
    rw [hc] at hcut
    have hlen := len_app hc
    have za := txt_size a
    have zb := txt_size b
    have zt := trimB_size ⟨b.toArray⟩
    cases hok : fldOk (fldT a b) with
    | false =>
      rw [rdF_no hc hok]
      unfold fldT at hok
      generalize (⟨a.toArray⟩ : ByteArray) = n0 at hcut hok za
      generalize (⟨b.toArray⟩ : ByteArray) = v0 at hcut hok zb zt
      go_enter Tryz.func103, Tryz.ntmps103
      go_wp2_with fail
      refine hcut.mono ?_
      rintro e w1 ⟨rfl, q, rfl⟩
      go_wp2_with fail
      refine (clone n0 _ (by omega)).mono ?_
      rintro e w2 ⟨rfl, hb2⟩
      go_wp2_with fail
      refine (implTrim v0 _ (by omega)).mono ?_
      rintro e w3 ⟨rfl, hb3⟩
      have d3 := below_block (below_block (show ((w.alloc (.cells #[.string ⟨#[]⟩, .string ⟨#[]⟩] 83)).drewN q).heap[w.heap.size]? = _ from b0) hb2) hb3
      have hb03 : Below w.heap.size w w3 := (hba.trans ((show Below (w.alloc (.cells #[.string ⟨#[]⟩, .string ⟨#[]⟩] 83)).heap.size (w.alloc (.cells #[.string ⟨#[]⟩, .string ⟨#[]⟩] 83)) w2 from ⟨hb2.os, hb2.tape, hb2.output, hb2.size, hb2.block⟩).mono (Nat.le_of_lt bl))).trans (hb3.mono (Nat.le_trans (Nat.le_of_lt bl) hb2.size))
      have d3a := below_block d3 ((Below.refl w3.heap.size w3).alloc (Nat.le_refl _) (.cells #[.string n0, .string (trimB v0)] 83))
      have d3b : (w3.alloc (.cells #[.string n0, .string (trimB v0)] 83)).heap[w3.heap.size]? = some (.cells #[.string n0, .string (trimB v0)] 83) := heap_alloc_new w3 _
      have hb03a := hb03.alloc hb03.size (.cells #[.string n0, .string (trimB v0)] 83)
      clear b0 d3 hb2 hb3 hb03 hcut hba
      go_wp2_with (go_at_call 85; refine (implFld (n0, trimB v0) _ (show n0.size ≤ 1048576 by omega) (show (trimB v0).size ≤ 1048576 by omega)).mono ?_; rw [hok]; rintro e w4 ⟨rfl, hb4⟩; have d4 := below_block d3a hb4; have d4b := below_block d3b hb4; have hb04 := hb03a.trans (hb4.mono hb03a.size); obtain ⟨c0, c1, f0, f1⟩ := box_cells d4; obtain ⟨e0, e1, _, _⟩ := box_cells d4b; clear d3a d3b d4 d4b hb4)
      refine bodyPost_ret (v := .tuple #[.agg #[.string ⟨#[]⟩, .string ⟨#[]⟩], .bool false]) (by simp [results, Tryz.results103, go_sem, c0, c1]) rfl ⟨rfl, (hb04.setCell (Nat.le_refl _) _).setCell (Nat.le_refl _) _⟩
    | true =>
      rw [rdF_yes hc hok]
      unfold fldT at hok ⊢
      generalize (⟨a.toArray⟩ : ByteArray) = n0 at hcut hok za ⊢
      generalize (⟨b.toArray⟩ : ByteArray) = v0 at hcut hok zb zt ⊢
      go_enter Tryz.func103, Tryz.ntmps103
      go_wp2_with fail
      refine hcut.mono ?_
      rintro e w1 ⟨rfl, q, rfl⟩
      go_wp2_with fail
      refine (clone n0 _ (by omega)).mono ?_
      rintro e w2 ⟨rfl, hb2⟩
      go_wp2_with fail
      refine (implTrim v0 _ (by omega)).mono ?_
      rintro e w3 ⟨rfl, hb3⟩
      have d3 := below_block (below_block (show ((w.alloc (.cells #[.string ⟨#[]⟩, .string ⟨#[]⟩] 83)).drewN q).heap[w.heap.size]? = _ from b0) hb2) hb3
      have hb03 : Below w.heap.size w w3 := (hba.trans ((show Below (w.alloc (.cells #[.string ⟨#[]⟩, .string ⟨#[]⟩] 83)).heap.size (w.alloc (.cells #[.string ⟨#[]⟩, .string ⟨#[]⟩] 83)) w2 from ⟨hb2.os, hb2.tape, hb2.output, hb2.size, hb2.block⟩).mono (Nat.le_of_lt bl))).trans (hb3.mono (Nat.le_trans (Nat.le_of_lt bl) hb2.size))
      have d3a := below_block d3 ((Below.refl w3.heap.size w3).alloc (Nat.le_refl _) (.cells #[.string n0, .string (trimB v0)] 83))
      have d3b : (w3.alloc (.cells #[.string n0, .string (trimB v0)] 83)).heap[w3.heap.size]? = some (.cells #[.string n0, .string (trimB v0)] 83) := heap_alloc_new w3 _
      have hb03a := hb03.alloc hb03.size (.cells #[.string n0, .string (trimB v0)] 83)
      clear b0 d3 hb2 hb3 hb03 hcut hba
      go_wp2_with (go_at_call 85; refine (implFld (n0, trimB v0) _ (show n0.size ≤ 1048576 by omega) (show (trimB v0).size ≤ 1048576 by omega)).mono ?_; rw [hok]; rintro e w4 ⟨rfl, hb4⟩; have d4 := below_block d3a hb4; have d4b := below_block d3b hb4; have hb04 := hb03a.trans (hb4.mono hb03a.size); obtain ⟨c0, c1, f0, f1⟩ := box_cells d4; obtain ⟨e0, e1, _, _⟩ := box_cells d4b; clear d3a d3b d4 d4b hb4)
      refine bodyPost_ret (v := .tuple #[.agg #[.string n0, .string (trimB v0)], .bool true]) (by simp [results, Tryz.results103, go_sem, c0, c1]) rfl ⟨rfl, (hb04.setCell (Nat.le_refl _) _).setCell (Nat.le_refl _) _⟩
end Go.Proofs.YtemmgfnepdgpbaaGreatDoor
