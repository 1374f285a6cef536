/-
  The specification's records by their contracts.
  The bytes of a text appended to a row of bytes that a call owns; what stays where such a row grows.
  Slices of texts that came in or that a call made: how they are read; the laws' own helpers for them.
-/
import Derived.Test.YtemmgfnepdgpbaaDoorR12
import Derived.Test.YtemmgfnepdgpbaaDoorR11
import Derived.Test.YtemmgfnepdgpbaaDoorR03
import Derived.WalkKit
import Derived.WalkSpells
import Derived.Lib.AppendStr
import Derived.Test.YtemmgfnepdgpbaaDoorR05
import Derived.SliceStrings
import Derived.Deep.QuietTactic
import Derived.BigQuiet
import Derived.Laws.OwnMore
namespace Go.Proofs.YtemmgfnepdgpbaaDoor
open Go.RowKit St Ow
set_option linter.unusedVariables false
set_option linter.unusedSimpArgs false

theorem txt_lst (l : List UInt8) : (txtL l).data.toList = l := by unfold txtL; simp
theorem bytes_ext {a b : ByteArray} (h : a.data.toList = b.data.toList) : a = b := ByteArray.ext (Array.toList_inj.1 h)
set_option maxHeartbeats 2000000 in
theorem specRec (s : ByteArray) (w : World) (hs : s.size ≤ 1048576) :
    Calls Tryd.prog 10 #[.string s] w fun e w' => e = .returned (.string (rcdA s)) ∧ Below w.heap.size w w' := by
  have i1 := fun W => specIntZ s.size W (by omega)
  have i2 := fun W => specHsh s W (by unfold maxLen; omega)
  have i3 := fun W => specIntZ (hshL s.data.toList) W (by have := hshL_lt s.data.toList; omega)
  by_cases h9 : 9000 < s.size
  · have HE : Hid (rcdA s = ⟨#[]⟩) := by show _ = _; unfold rcdA; rw [if_neg (by omega)]
    have h9i : 9000 < (s.size : Int) := by omega
    go_enter Tryd.func10, Tryd.ntmps10
    go_wp2
    go_ret
    exact ⟨by rw [HE.out]; rfl, Below.refl _ _⟩
  · have h9i : ¬ 9000 < (s.size : Int) := by omega
    have HE : Hid (rcdA s = ((((itoS s.size ++ ⟨#[32]⟩) ++ itoS (hshL s.data.toList)) ++ ⟨#[10]⟩) ++ s) ++ ⟨#[10]⟩) := by
      show _ = _
      unfold rcdA
      rw [if_pos (by omega)]
      apply bytes_ext
      rw [txt_lst]
      unfold recL dd St.hs itoS
      simp
    have z1 := itoS_size (n := s.size) (by omega)
    have z2 := itoS_size (n := hshL s.data.toList) (by have := hshL_lt s.data.toList; omega)
    generalize itoS s.size = a at i1 HE z1
    generalize itoS (hshL s.data.toList) = b at i3 HE z2
    generalize ((hshL s.data.toList : Nat) : Int) = hv at i2 i3
    go_enter Tryd.func10, Tryd.ntmps10
    go_wp2_with fail
    refine (i1 _).mono ?_
    rintro e w1 ⟨rfl, hb1⟩
    go_wp2_with fail
    refine (i2 _).mono ?_
    rintro e w2 ⟨rfl, rfl⟩
    go_wp2_with fail
    refine (i3 _).mono ?_
    rintro e w3 ⟨rfl, hb3⟩
    have B3 : Hid (Below w.heap.size w w3) := (show Below _ _ _ from hb1.trans (hb3.mono hb1.size))
    clear hb1 hb3
    go_wp2
    go_ret
    exact ⟨by rw [HE.out]; rfl, B3.out⟩
end Go.Proofs.YtemmgfnepdgpbaaDoor
namespace Go.Proofs.YtemmgfnepdgpbaaDoor
open Go.RowKit

theorem OwnsB.under {w : World} {B : Nat} {v : Value} {l : List UInt8} (h : OwnsB w B v l) : ∀ k, v.ownBlock = some k → k < w.heap.size := fun k hk => (World.ownsRow.lt h k hk).2
end Go.Proofs.YtemmgfnepdgpbaaDoor
namespace Go.Proofs.YtemmgfnepdgpbaaDoor
open Go.RowKit

/-- The slice v holds the texts l. -/
def StrsP (w : World) (v : Value) (l : List ByteArray) : Prop := ∃ a cap, v = .slice a l.length cap ∧ l.length ≤ cap ∧ cap ≤ maxLen ∧ (0 < l.length → ∃ g o, a = some ⟨g, o, none⟩ ∧ g < w.heap.size ∧ ∀ j (hj : j < l.length), w.cell? ⟨g, o + j, none⟩ = some (.string l[j]))
theorem StrsP.kept {w w' : World} {v : Value} {l : List ByteArray} (h : StrsP w v l) (hb : Below w.heap.size w w') : StrsP w' v l := by
  obtain ⟨a, cap, h1, h2, h3, h4⟩ := h
  refine ⟨a, cap, h1, h2, h3, fun h0 => ?_⟩
  obtain ⟨g, o, h5, h6, h7⟩ := h4 h0
  exact ⟨g, o, h5, Nat.lt_of_lt_of_le h6 hb.size, fun j hj => (hb.cell (p := ⟨g, o + j, none⟩) h6).trans (h7 j hj)⟩
theorem StrsP.drew {w : World} {v : Value} {l : List ByteArray} (h : StrsP w v l) : StrsP w.drew v l := h
/-- The value v owns the texts l, in a block from B on. -/
def OwnsP (w : World) (B : Nat) (v : Value) (l : List ByteArray) : Prop := w.ownsRow B 9 1 v l.length (l.map Value.string)
theorem OwnsP.put {w : World} {B g cap n : Nat} {l : List ByteArray} (h : OwnsP w B (.slice (some ⟨g, 0, none⟩) n cap) l) (hn : n = l.length) (k : Nat) (s : ByteArray) : OwnsP (w.setCell ⟨g, k, none⟩ (.string s)) B (.slice (some ⟨g, 0, none⟩) n cap) (l.set k s) := by
  subst hn
  rcases h.2 with ⟨e, _⟩ | ⟨g', cap', cur, e, hb, hg, hc, hm, hz, rest⟩
  · cases e
  · obtain ⟨rfl, rfl⟩ : g = g' ∧ cap = cap' := by simpa using e
    refine ⟨by simp, .inr ⟨g, cap, cur.setIfInBounds k (.string s), by simp, hb, ?_, by simpa using hc, hm, by simpa using hz, ?_⟩⟩
    · rw [setCell_eq_setRow w g k cur 9 (0, 0) _ hg]
      exact setRow_heap w g cur _ 9 _ hg
    · simp only [Nat.mul_one] at rest ⊢
      rw [List.length_set, Array.toList_setIfInBounds, List.take_set, rest, List.map_set]
theorem OwnsP.at {w : World} {B g cap n : Nat} {l : List ByteArray} (h : OwnsP w B (.slice (some ⟨g, 0, none⟩) n cap) l) (hn : n = l.length) (k : Nat) (hk : k < l.length) : w.cell? ⟨g, k, none⟩ = some (.string l[k]) ∧ w.frozen? ⟨g, k, none⟩ = false := by
  subst hn
  refine ⟨?_, World.ownsRow.frozenAt h k⟩
  have := World.ownsRow.cells h (g := g) rfl k (.string l[k]) (by rw [List.getElem?_map, List.getElem?_eq_getElem hk]; rfl)
  rw [addr_add, Nat.zero_add] at this
  exact this
end Go.Proofs.YtemmgfnepdgpbaaDoor
