/-
  Slices of fields that a call has for itself, whatever room lies behind them; how the law marks them, and asks for the marks.
  The contracts of the program's set of names: names that are put in, and whether one is there.
  The contract of the program's Get.
  The contracts of Without, the specification's and the program's.
  Objects in memory: all cells stored; fields that came in, appended to a row of one's own.
  A directive that is cut at its first = : what the specification reads of it.
  A map of methods that are bound to one struct, by texts: put together key by key, and asked.
-/
import Derived.Test.YtkaogmdhjcgcdaaGreatDoorG21
import Derived.Test.YtkaogmdhjcgcdaaGreatDoorG26
import Derived.Test.YtkaogmdhjcgcdaaGreatDoorG05
import Derived.Maps.OwnSet
import Derived.Maps.AppendAt
import Derived.Handy
import Derived.Test.YtkaogmdhjcgcdaaGreatDoorG22
import Derived.Deep.RegionLaw
import Derived.Test.YtkaogmdhjcgcdaaGreatDoorG29
import Derived.Laws.Append
import Derived.Test.YtkaogmdhjcgcdaaGreatDoorG23
import Derived.Laws.AppendOwnNone
import Derived.Test.YtkaogmdhjcgcdaaGreatDoorG10
import Derived.Lib.IndexMore
namespace Go.Proofs.YtkaogmdhjcgcdaaGreatDoor
open Go.RowKit Go.Sort

/-- The value v has the fields l, in a block from B on. -/
def HasF (w : World) (B : Nat) (v : Value) (l : List Fl) : Prop :=
  (v = .slice none 0 0 ∧ l = []) ∨ ∃ g cap cur, v = .slice (some ⟨g, 0, none⟩) l.length cap ∧ B ≤ g ∧ w.heap[g]? = some (.cells cur 105 (0, 0)) ∧ l.length ≤ cap ∧ cap ≤ maxLen ∧ cap * 2 ≤ cur.size ∧ cur.toList.take (l.length * 2) = cellsF l
theorem OwnsF.has {w : World} {B : Nat} {v : Value} {l : List Fl} (h : OwnsF w B v l) : HasF w B v l := by
  rcases h.2 with ⟨h0, h1⟩ | ⟨g, cap, cur, hv, hb, hg, hc, hm, hz, ht⟩
  · exact .inl ⟨h0, List.eq_nil_of_length_eq_zero h1⟩
  · exact .inr ⟨g, cap, cur, hv, hb, hg, hc, hm, by omega, ht⟩
/-- .. also where the room behind it is cut off. -/
theorem HasF.cut {w : World} {B g cap : Nat} {n : Nat} {l : List Fl} (h : HasF w B (.slice (some ⟨g, 0, none⟩) n cap) l) (hn : n = l.length) : HasF w B (.slice (some ⟨g, 0, none⟩) n n) l := by
  subst hn
  rcases h with ⟨h0, _⟩ | ⟨g', cap', cur, hv, hb, hg, hc, hm, hz, ht⟩
  · cases h0
  · simp only [Value.slice.injEq, Option.some.injEq, Addr.mk.injEq, and_true, true_and] at hv
    obtain ⟨rfl, rfl⟩ := hv
    exact .inr ⟨g, l.length, cur, rfl, hb, hg, Nat.le_refl _, Nat.le_trans hc hm, by omega, ht⟩
theorem HasF.kept {w w' : World} {B : Nat} {v : Value} {l : List Fl} (h : HasF w B v l) (hb : Below w.heap.size w w') : HasF w' B v l := by
  rcases h with h0 | ⟨g, cap, cur, hv, hbg, hg, rest⟩
  · exact .inl h0
  · exact .inr ⟨g, cap, cur, hv, hbg, by rw [hb.block g (Array.getElem?_eq_some_iff.1 hg).1]; exact hg, rest⟩
theorem HasF.grown {w w' : World} {B : Nat} {v : Value} {l : List Fl} {r : Option Nat} (h : HasF w B v l) (hg : w.grownBy w' r) (hne : ∀ k, v.ownBlock = some k → some k ≠ r) : HasF w' B v l := by
  rcases h with h0 | ⟨g, cap, cur, hv, hbg, hh, rest⟩
  · exact .inl h0
  · exact .inr ⟨g, cap, cur, hv, hbg, by rw [hg.block g (Array.getElem?_eq_some_iff.1 hh).1 (hne g (by rw [hv]; rfl))]; exact hh, rest⟩
theorem HasF.low {w : World} {B B' : Nat} {v : Value} {l : List Fl} (h : HasF w B v l) (hB : B' ≤ B) : HasF w B' v l := by
  rcases h with h0 | ⟨g, cap, cur, hv, hb, rest⟩
  · exact .inl h0
  · exact .inr ⟨g, cap, cur, hv, by omega, rest⟩
theorem HasF.from {w : World} {B : Nat} {v : Value} {l : List Fl} (h : HasF w B v l) : ∀ k, v.ownBlock = some k → B ≤ k := by
  intro k hk
  rcases h with ⟨rfl, _⟩ | ⟨g, cap, cur, rfl, hb, _⟩
  · simp [Value.ownBlock] at hk
  · simp [Value.ownBlock] at hk; omega
theorem HasF.under {w : World} {B : Nat} {v : Value} {l : List Fl} (h : HasF w B v l) : ∀ k, v.ownBlock = some k → k < w.heap.size := by
  intro k hk
  rcases h with ⟨rfl, _⟩ | ⟨g, cap, cur, rfl, hb, hg, _⟩
  · simp [Value.ownBlock] at hk
  · simp [Value.ownBlock] at hk; subst hk; exact (Array.getElem?_eq_some_iff.1 hg).1
theorem HasF.form {w : World} {B : Nat} {v : Value} {l : List Fl} (h : HasF w B v l) : ∃ a cap, v = .slice a l.length cap ∧ l.length ≤ cap ∧ cap ≤ maxLen ∧ (0 < l.length → ∃ g, a = some ⟨g, 0, none⟩) := by
  rcases h with ⟨rfl, rfl⟩ | ⟨g, cap, cur, rfl, hb, hg, hc, hm, _⟩
  · exact ⟨none, 0, rfl, Nat.le_refl _, Nat.zero_le _, fun h => absurd h (by simp)⟩
  · exact ⟨_, cap, rfl, hc, hm, fun _ => ⟨g, rfl⟩⟩
theorem HasF.at {w : World} {B g n cap : Nat} {l : List Fl} (h : HasF w B (.slice (some ⟨g, 0, none⟩) n cap) l) (j : Nat) (hj : j < l.length) : w.cell? ⟨g, j * 2, none⟩ = some (.string l[j].1) ∧ w.cell? ⟨g, j * 2 + 1, none⟩ = some (.string l[j].2) := by
  rcases h with ⟨h0, _⟩ | ⟨g', cap', cur, hv, hb, hg, hc, hm, hz, ht⟩
  · cases h0
  · simp only [Value.slice.injEq, Option.some.injEq, Addr.mk.injEq, and_true] at hv
    obtain ⟨rfl, _⟩ := hv
    obtain ⟨c1, c2⟩ := cellsF_at l j hj
    rw [← ht, List.getElem?_take_of_lt (by omega)] at c1 c2
    rw [cell_of_row w g _ cur _ _ hg, cell_of_row w g _ cur _ _ hg]
    exact ⟨by simpa using c1, by simpa using c2⟩
theorem HasF.free {w : World} {B g n cap : Nat} {l : List Fl} (h : HasF w B (.slice (some ⟨g, 0, none⟩) n cap) l) (j : Nat) : w.frozen? ⟨g, j, none⟩ = false := by
  rcases h with ⟨h0, _⟩ | ⟨g', cap', cur, hv, hb, hg, _⟩
  · cases h0
  · simp only [Value.slice.injEq, Option.some.injEq, Addr.mk.injEq, and_true] at hv
    obtain ⟨rfl, _⟩ := hv
    exact frozen_of_row w g j cur _ hg
theorem HasF.fls {w : World} {B : Nat} {v : Value} {l : List Fl} (h : HasF w B v l) : Fls w v l := by
  obtain ⟨a, cap, rfl, h1, h2, h3⟩ := h.form
  refine ⟨a, cap, rfl, h1, h2, fun h0 => ?_⟩
  obtain ⟨g, rfl⟩ := h3 h0
  exact ⟨g, 0, rfl, h.under g rfl, fun j hj => by rw [Nat.zero_add]; exact h.at j hj⟩
theorem HasF.put1 {w : World} {B g cap n : Nat} {l : List Fl} (h : HasF w B (.slice (some ⟨g, 0, none⟩) n cap) l) {k : Nat} (hk : k < l.length) (c : ByteArray) : HasF (w.setCell ⟨g, k * 2, none⟩ (.string c)) B (.slice (some ⟨g, 0, none⟩) n cap) (l.set k (c, l[k].2)) := by
  rcases h with ⟨h0, _⟩ | ⟨g', cap', cur, hv, hb, hg, hc, hm, hz, ht⟩
  · cases h0
  · simp only [Value.slice.injEq, Option.some.injEq, Addr.mk.injEq, and_true] at hv
    obtain ⟨rfl, rfl, rfl⟩ := hv
    refine .inr ⟨g, cap, cur.setIfInBounds (k * 2) (.string c), by rw [List.length_set], hb, heap_setCell_same w g _ cur _ _ hg, by rw [List.length_set]; exact hc, hm, by simpa using hz, ?_⟩
    rw [List.length_set, ← cellsF_set1 l c k hk, Array.toList_setIfInBounds, ← ht, List.take_set]
theorem HasF.put2 {w : World} {B g cap n : Nat} {l : List Fl} (h : HasF w B (.slice (some ⟨g, 0, none⟩) n cap) l) {k : Nat} (hk : k < l.length) (c : ByteArray) : HasF (w.setCell ⟨g, k * 2 + 1, none⟩ (.string c)) B (.slice (some ⟨g, 0, none⟩) n cap) (l.set k (l[k].1, c)) := by
  rcases h with ⟨h0, _⟩ | ⟨g', cap', cur, hv, hb, hg, hc, hm, hz, ht⟩
  · cases h0
  · simp only [Value.slice.injEq, Option.some.injEq, Addr.mk.injEq, and_true] at hv
    obtain ⟨rfl, rfl, rfl⟩ := hv
    refine .inr ⟨g, cap, cur.setIfInBounds (k * 2 + 1) (.string c), by rw [List.length_set], hb, heap_setCell_same w g _ cur _ _ hg, by rw [List.length_set]; exact hc, hm, by simpa using hz, ?_⟩
    rw [List.length_set, ← cellsF_set2 l c k hk, Array.toList_setIfInBounds, ← ht, List.take_set]

/-! ### Marks -/
end Go.Proofs.YtkaogmdhjcgcdaaGreatDoor
namespace Go.Proofs.YtkaogmdhjcgcdaaGreatDoor
open Go.RowKit Go.Sort Go.Maps Go.ChangeMaps Go.WideMaps

/-- The slice v reads as the texts ns. -/
def Strs (w : World) (v : Value) (ns : List ByteArray) : Prop :=
  ∃ a cap, v = .slice a ns.length cap ∧ ns.length ≤ cap ∧ cap ≤ maxLen ∧ (0 < ns.length → ∃ g o, a = some ⟨g, o, none⟩ ∧ g < w.heap.size ∧ ∀ j (hj : j < ns.length), w.cell? ⟨g, o + j, none⟩ = some (.string ns[j]))
theorem Strs.kept {w w' : World} {v : Value} {l : List ByteArray} (h : Strs w v l) (hb : Below w.heap.size w w') : Strs w' v l := by
  obtain ⟨a, cap, hv, h1, h2, h3⟩ := h
  refine ⟨a, cap, hv, h1, h2, fun h0 => ?_⟩
  obtain ⟨g, o, ha, hg, hc⟩ := h3 h0
  exact ⟨g, o, ha, Nat.lt_of_lt_of_le hg hb.size, fun j hj => (hb.cell (p := ⟨g, o + j, none⟩) hg).trans (hc j hj)⟩

def keyL (s : ByteArray) : Lit := .string s.data.toList
/-- Block b is the set of the names acc. -/
def SetIs (w : World) (b : Nat) (acc : List ByteArray) : Prop := w.ownsMap Tryz.prog 9 (unitElem (H := Unit)) b acc.length (setOf (.agg []) (acc.map keyL))
theorem SetIs.made (w : World) : SetIs (w.alloc (.map #[] 0)) w.heap.size [] := World.ownsMap_made _ _ _ _
theorem SetIs.lt {w : World} {b : Nat} {acc : List ByteArray} (h : SetIs w b acc) : b < w.heap.size := World.ownsMap.lt h
theorem SetIs.kept {w w' : World} {b : Nat} {acc : List ByteArray} (h : SetIs w b acc) (hb : Below w.heap.size w w') : SetIs w' b acc :=
  World.ownsMap.kept h (row := none) ⟨hb.os, hb.tape, hb.output, hb.size, fun k hk _ => hb.block k hk⟩ (by simp)
theorem SetIs.grown {w w' : World} {b : Nat} {acc : List ByteArray} {r : Option Nat} (h : SetIs w b acc) (hg : w.grownBy w' r) (hne : some b ≠ r) : SetIs w' b acc := World.ownsMap.kept h hg hne
theorem SetIs.put {w : World} {b : Nat} {acc : List ByteArray} {x : ByteArray} (h : w.ownsMap Tryz.prog 9 (unitElem (H := Unit)) b (acc.length + 1) ((setOf (H := Unit) (.agg []) (acc.map keyL)).put (keyL x) (.agg []))) : SetIs w b (acc ++ [x]) := by
  unfold SetIs
  rw [List.map_append, List.length_append, show [x].map keyL = [keyL x] from rfl, setOf_snoc]
  exact h

end Go.Proofs.YtkaogmdhjcgcdaaGreatDoor
namespace Go.Proofs.YtkaogmdhjcgcdaaGreatDoor
open Go.RowKit Go.Sort

theorem data_app (a b : ByteArray) : (a ++ b).data.toList = a.data.toList ++ b.data.toList := by rw [ByteArray.data_append, Array.toList_append]
theorem text_of (x : ByteArray) : (⟨x.data.toList.toArray⟩ : ByteArray) = x := by cases x; simp
theorem len_of (x : ByteArray) : x.data.toList.length = x.size := by simp

set_option maxHeartbeats 1000000 in
theorem implGet (v : Value) (l : List Fl) (n : ByteArray) (w : World) (h : Fls w v l) (hz : szL l ≤ 1048576) (hn : n.size ≤ 1048576) :
    Calls Tryz.prog 103 #[v, .string n] w fun e w' => e = .returned (getE (getA l n)) ∧ Below w.heap.size w w' := by
  have hh := h
  obtain ⟨a, cap, rfl, h1, h2, h3⟩ := hh
  unfold maxLen at h2
  have hnm : n.size ≤ maxLen := by unfold maxLen; omega
  cases hok : fldsOk l with
  | false =>
    have HN : Hid ((⟨#[]⟩, false) = getA l n) := getA_no n hok
    go_enter Tryz.func103, Tryz.ntmps103
    go_wp2_with (go_at_call 60; refine (implOk _ l _ h hz).mono ?_; rw [hok]; rintro e w1 ⟨rfl, hb1⟩)
    go_ret2
    exact ⟨ret_get HN.out, hb1⟩
  | true =>
    obtain ⟨hl, hfs⟩ := fldsOk_parts hok
    have HG : Hid (getF l n = getA l n) := getA_yes n hok
    go_enter Tryz.func103, Tryz.ntmps103
    go_wp2_with (first | (go_at_call 60; refine (implOk _ l _ h hz).mono ?_; rw [hok]; rintro e w1 ⟨rfl, hb1⟩) | (go_at_call 129; refine (implLow _ _ hnm).mono ?_; rintro e w2 ⟨rfl, hb2⟩))
    have hb02 := hb1.trans (hb2.mono hb1.size)
    clear hb1 hb2
    go_loopw [7, 8, 18] (fun s b i wr => ∃ (k : Nat) (x : ByteArray) (fd : Bool), k ≤ l.length ∧ i = .int .i64 k ∧ b = .bool fd ∧ x.size ≤ 402 * k ∧ OwnsB wr w.heap.size s x.data.toList ∧ Hid (getF (l.take k) n = (x, fd)) ∧ Below w.heap.size w wr) (fun _ _ i _ => l.length - (intOf i).toNat)
    case atStart => exact ⟨0, ⟨#[]⟩, false, Nat.zero_le _, rfl, rfl, Nat.le_refl _, OwnsB.nil _ _, rfl, hb02⟩
    case round =>
      clear hb02
      obtain ⟨k, x, fd, hk, rfl, rfl, hxs, hown, hget, hb⟩ := hrel
      have hxl := len_of x
      by_cases hlt : k < l.length
      · obtain ⟨g, o, rfl, hg, hc⟩ := h3 (by omega)
        have c1 := (hb.cell (p := ⟨g, o + k * 2, none⟩) hg).trans (hc k hlt).1
        have c2 := (hb.cell (p := ⟨g, o + k * 2 + 1, none⟩) hg).trans (hc k hlt).2
        have hsz := fldOk_size (hfs l[k] (List.getElem_mem hlt))
        have hnx := getF_next n hlt
        rw [hget.out] at hnx
        generalize l[k] = f at c1 c2 hsz hnx
        have z1 : f.1.size ≤ maxLen := by unfold maxLen; omega
        have d1 := box1 wr f 105
        have bl := box_lt wr (.cells #[.string f.1, .string f.2] 105)
        have hba := hb.alloc hb.size (.cells #[.string f.1, .string f.2] 105)
        have hoa := hown.alloc (.cells #[.string f.1, .string f.2] 105)
        have hun := OwnsB.under hown
        clear hc h3 hfs h
        by_cases he : lowS f.1 = lowS n
        · have hq := same_yes he
          cases fd with
          | false =>
            rw [gStep_first he] at hnx
            have HN : Hid (getF (l.take (k + 1)) n = (x ++ f.2, true)) := hnx
            clear hnx he
            go_wp2_with (first
              | (go_at_call 129; refine (implLow _ _ z1).mono ?_; rintro e w1 ⟨rfl, hb1⟩; have e1 := (hb1.cell (p := ⟨wr.heap.size, 1, none⟩) bl).trans d1; have ho1 := hoa.kept hb1; have hb01 := hba.trans (hb1.mono hba.size))
              | (at_builtin; refine wpList_pushStr _ rfl _ _ rfl w.heap.size _ _ _ rfl ho1 rfl (by omega) hb01.size ?_; intro v2 w2 ho2 hg2))
            have hb02 := hb01.grown hg2 hb01.size (OwnsB.from ho1)
            rw [← data_app] at ho2
            clear hown hoa ho1 hb hb1 hba hb01 hg2 c1 c2 d1 e1
            go_roundw
            case rel => exact ⟨k + 1, _, true, by omega, by go_num, rfl, by rw [ByteArray.size_append]; omega, ho2, HN, hb02⟩
            case measure => simp [intOf]; omega
          | true =>
            rw [gStep_more he] at hnx
            have HN : Hid (getF (l.take (k + 1)) n = (x ++ ⟨#[44, 32]⟩ ++ f.2, true)) := hnx
            have zz : (x ++ (⟨#[44, 32]⟩ : ByteArray)).size = x.size + 2 := by rw [ByteArray.size_append]; rfl
            clear hnx he
            go_wp2_with (first
              | (go_at_call 129; refine (implLow _ _ z1).mono ?_; rintro e w1 ⟨rfl, hb1⟩; have e1 := (hb1.cell (p := ⟨wr.heap.size, 1, none⟩) bl).trans d1; have ho1 := hoa.kept hb1; have hb01 := hba.trans (hb1.mono hba.size))
              | (at_builtin; refine wpList_pushStr _ rfl _ _ rfl w.heap.size _ _ _ rfl ho1 rfl (by show _ + 2 ≤ _; omega) hb01.size ?_; intro v2 w2 ho2 hg2; have e2 := grown_cell hg2 e1 (Nat.lt_of_lt_of_le bl hb1.size) (fun j hj => Nat.ne_of_lt (hun j hj)); have hb02 := hb01.grown hg2 hb01.size (OwnsB.from ho1); rw [← data_app] at ho2)
              | (at_builtin; refine wpList_pushStr _ rfl _ _ rfl w.heap.size _ _ _ rfl ho2 rfl (by rw [len_of, zz]; omega) hb02.size ?_; intro v3 w3 ho3 hg3))
            have hb03 := hb02.grown hg3 hb02.size (OwnsB.from ho2)
            rw [← data_app] at ho3
            clear hown hoa ho1 ho2 hb hb1 hba hb01 hb02 hg2 hg3 c1 c2 d1 e1 e2
            go_roundw
            case rel => exact ⟨k + 1, _, true, by omega, by go_num, rfl, by rw [ByteArray.size_append, zz]; omega, ho3, HN, hb03⟩
            case measure => simp [intOf]; omega
        · have hq := same_no he
          rw [gStep_no he] at hnx
          have HN : Hid (getF (l.take (k + 1)) n = (x, fd)) := hnx
          clear hnx he
          go_wp2_with (go_at_call 129; refine (implLow _ _ z1).mono ?_; rintro e w1 ⟨rfl, hb1⟩; have ho1 := hoa.kept hb1; have hb01 := hba.trans (hb1.mono hba.size))
          clear hown hoa hb hb1 hba c1 c2 d1
          go_roundw
          case rel => exact ⟨k + 1, _, fd, by omega, by go_num, rfl, by omega, ho1, HN, hb01⟩
          case measure => simp [intOf]; omega
      · have HN : Hid ((x, fd) = getA l n) := by rw [← HG.out, ← getF_end n hlt]; exact hget.out.symm
        have ht := hown.text
        rw [text_of] at ht
        go_wp2
        go_ret2
        exact ⟨ret_get HN.out, hb⟩
end Go.Proofs.YtkaogmdhjcgcdaaGreatDoor
namespace Go.Proofs.YtkaogmdhjcgcdaaGreatDoor
open Go.RowKit Go.Sort Go.Maps

/-- A slice of fields as the program answers it. -/
def GivesF (w w' : World) (e : Ending) (l : List Fl) : Prop := (∃ g, e = .returned (.slice (some ⟨g, 0, none⟩) l.length l.length) ∧ HasF w' w.heap.size (.slice (some ⟨g, 0, none⟩) l.length l.length) l) ∧ Below w.heap.size w w'
theorem GivesF.any {w w' : World} {e : Ending} {l : List Fl} (h : GivesF w w' e l) : ∃ u, e = .returned u ∧ HasF w' w.heap.size u l ∧ Below w.heap.size w w' := by
  obtain ⟨⟨g, he, hh⟩, hb⟩ := h
  exact ⟨_, he, hh, hb⟩
end Go.Proofs.YtkaogmdhjcgcdaaGreatDoor
namespace Go.Proofs.YtkaogmdhjcgcdaaGreatDoor
open Go.RowKit Go.Sort
set_option linter.unusedVariables false

def obL (o : Ob) (v u : Value) : List Value := [.string o.k, v, .int .i64 o.r.s, u, .string o.r.b, .int .i64 o.asked, .int .i64 o.got, .int .i64 o.ep]
theorem ObB.puts {w : World} {b : Nat} {o : Ob} {v u : Value} (h : ObB w b o v u) (o' : Ob) (v' u' : Value) : ObB (putL w b (obL o' v' u') 0) b o' v' u' := by
  have k := fun i => (putL_cells (w0 := w) b (obL o' v' u') 0 w (fun j _ h2 => by
    have h3 : j < 8 := by simpa [obL] using h2
    rcases (show j = 0 ∨ j = 1 ∨ j = 2 ∨ j = 3 ∨ j = 4 ∨ j = 5 ∨ j = 6 ∨ j = 7 by omega) with rfl | rfl | rfl | rfl | rfl | rfl | rfl | rfl
    · exact ⟨_, h.c0⟩
    · exact ⟨_, h.c1⟩
    · exact ⟨_, h.c2⟩
    · exact ⟨_, h.c3⟩
    · exact ⟨_, h.c4⟩
    · exact ⟨_, h.c5⟩
    · exact ⟨_, h.c6⟩
    · exact ⟨_, h.c7⟩) i).1
  exact ⟨k 0 _ ⟨rfl, by omega⟩, k 1 _ ⟨rfl, by omega⟩, k 2 _ ⟨rfl, by omega⟩, k 3 _ ⟨rfl, by omega⟩, k 4 _ ⟨rfl, by omega⟩, k 5 _ ⟨rfl, by omega⟩, k 6 _ ⟨rfl, by omega⟩, k 7 _ ⟨rfl, by omega⟩, fun j => by rw [putL_frozen]; exact h.fz j, by rw [putL_size]; exact h.hi⟩
theorem ObB.same {w w' : World} {b : Nat} {o : Ob} {v u : Value} (h : ObB w b o v u) (e : w'.heap[b]? = w.heap[b]?) (hs : w.heap.size ≤ w'.heap.size) : ObB w' b o v u := by
  have k : ∀ k, w'.cell? ⟨b, k, none⟩ = w.cell? ⟨b, k, none⟩ := fun k => World.cell?_of_block (a := ⟨b, k, none⟩) e
  exact ⟨(k 0).trans h.c0, (k 1).trans h.c1, (k 2).trans h.c2, (k 3).trans h.c3, (k 4).trans h.c4, (k 5).trans h.c5, (k 6).trans h.c6, (k 7).trans h.c7, fun j => (World.frozen?_of_block (a := ⟨b, j, none⟩) e).trans (h.fz j), Nat.lt_of_lt_of_le h.hi hs⟩
theorem RsB.same {w w' : World} {b : Nat} {r : Rs} {v : Value} (h : RsB w b r v) (e : w'.heap[b]? = w.heap[b]?) (hs : w.heap.size ≤ w'.heap.size) : RsB w' b r v := by
  have k : ∀ k, w'.cell? ⟨b, k, none⟩ = w.cell? ⟨b, k, none⟩ := fun k => World.cell?_of_block (a := ⟨b, k, none⟩) e
  exact ⟨(k 0).trans h.c0, (k 1).trans h.c1, (k 2).trans h.c2, fun j => (World.frozen?_of_block (a := ⟨b, j, none⟩) e).trans (h.fz j), Nat.lt_of_lt_of_le h.hi hs⟩
theorem obB_all {o : Ob} (h : obB o = true) : keyO o.k = true ∧ fldsOk o.l = true ∧ rsOk o.r = true ∧ momB o.asked = true ∧ momB o.got = true := by
  unfold obB at h
  simp only [Bool.and_eq_true] at h
  exact ⟨h.1, h.2.1, h.2.2.1, h.2.2.2.1, h.2.2.2.2.1⟩
theorem ownB_flds {l : List Fl} (h : ownB l = true) : fldsOk l = true := by unfold ownB at h; exact (Bool.and_eq_true _ _ ▸ h).1
theorem rsOk_flds {r : Rs} (h : rsOk r = true) : fldsOk r.l = true := ownB_flds (rsOk_parts h).2.1
theorem szL_flds {l : List Fl} (h : fldsOk l = true) : szL l ≤ 13920 := by
  obtain ⟨h1, h2⟩ := fldsOk_parts h
  have : ∀ m : List Fl, (∀ f ∈ m, fldOk f = true) → szL m ≤ m.length * 464 := by
    intro m
    induction m with
    | nil => intro _; exact Nat.zero_le _
    | cons f m ih =>
      intro hm
      have k1 := fldOk_size (hm f (by simp))
      have k2 := ih fun g hg => hm g (by simp [hg])
      have e : szL (f :: m) = szF f + szL m := by simp [szL]
      rw [e, List.length_cons]
      unfold szF
      omega
  have k := this l h2
  omega
end Go.Proofs.YtkaogmdhjcgcdaaGreatDoor
namespace Go.Proofs.YtkaogmdhjcgcdaaGreatDoor
open Go.RowKit
set_option linter.unusedVariables false

theorem cutE_hit {b : UInt8} {l sub : List UInt8} (h : sub.isPrefixOf (b :: l) = true) : Lib.cut (b :: l) sub = ([], (b :: l).drop sub.length, true) := by
  unfold Lib.cut
  rw [Lib.index, if_pos h]
  simp
theorem cutE_miss {b : UInt8} {l sub : List UInt8} (h : sub.isPrefixOf (b :: l) = false) : Lib.cut (b :: l) sub = if (Lib.cut l sub).2.2 = true then (b :: (Lib.cut l sub).1, (Lib.cut l sub).2.1, true) else (b :: l, [], false) := by
  have hg := Lib.index_ge l sub
  have hi : Lib.index (b :: l) sub = if Lib.index l sub == -1 then -1 else Lib.index l sub + 1 := by
    rw [Lib.index, if_neg (by rw [h]; decide)]
  unfold Lib.cut
  rw [hi]
  by_cases h1 : Lib.index l sub = -1
  · rw [h1]; simp
  · obtain ⟨n, hn⟩ : ∃ n : Nat, Lib.index l sub = n := ⟨(Lib.index l sub).toNat, by omega⟩
    rw [hn]
    have e1 : ((n : Int) == -1) = false := by simp
    have e2 : ((n : Int) + 1).toNat = n + 1 := by omega
    simp only [e1, Bool.false_eq_true, if_false, if_pos (show (0 : Int) ≤ (n : Int) + 1 by omega), if_pos (show (0 : Int) ≤ (n : Int) by omega), if_true, e2, Int.toNat_natCast, List.take_succ_cons]
    rw [show n + 1 + sub.length = (n + sub.length) + 1 from by omega, List.drop_succ_cons]
/-- A text cut at its first sign c. -/
theorem cutE_is (c : UInt8) : ∀ l : List UInt8, c ∉ (Lib.cut l [c]).1 ∧ (((Lib.cut l [c]).2.2 = true ∧ l = (Lib.cut l [c]).1 ++ c :: (Lib.cut l [c]).2.1) ∨ ((Lib.cut l [c]).2.2 = false ∧ l = (Lib.cut l [c]).1 ∧ (Lib.cut l [c]).2.1 = []))
  | [] => ⟨by simp [Lib.cut, Lib.index], .inr ⟨rfl, rfl, rfl⟩⟩
  | b :: t => by
    by_cases h : b = c
    · subst h
      rw [cutE_hit (by simp [List.isPrefixOf])]
      exact ⟨by simp, .inl ⟨rfl, by simp⟩⟩
    · have hp : ([c] : List UInt8).isPrefixOf (b :: t) = false := by
        simp [List.isPrefixOf]
        exact fun e => h e.symm
      obtain ⟨h1, h2⟩ := cutE_is c t
      rw [cutE_miss hp]
      rcases h2 with ⟨h3, h4⟩ | ⟨h3, h4, h5⟩
      · rw [if_pos h3]
        exact ⟨by simp only [List.mem_cons, not_or]; exact ⟨fun e => h e.symm, h1⟩, .inl ⟨rfl, by simp only [List.cons_append]; rw [← h4]⟩⟩
      · rw [if_neg (by rw [h3]; decide)]
        refine ⟨?_, .inr ⟨rfl, rfl, rfl⟩⟩
        simp only [List.mem_cons, not_or]
        exact ⟨fun e => h e.symm, by rw [← h4] at h1; exact h1⟩
theorem split_same {c : UInt8} : ∀ {a b r : List UInt8}, c ∉ a → c ∉ b → (b ++ c :: r).take (a.length + 1) = a ++ [c] → b = a
  | [], [], r, _, _, _ => rfl
  | [], x :: b, r, _, h2, h => by
    simp at h
    exact absurd (by rw [h]; simp) h2
  | x :: a, [], r, h1, _, h => by
    simp at h
    exact absurd (by rw [h.1]; simp) h1
  | x :: a, y :: b, r, h1, h2, h => by
    simp only [List.cons_append, List.length_cons, List.take_succ_cons, List.cons.injEq] at h
    rw [h.1, split_same (fun e => h1 (List.mem_cons_of_mem _ e)) (fun e => h2 (List.mem_cons_of_mem _ e)) h.2]
def eqA (s : ByteArray) : ByteArray := ⟨(Lib.cut s.data.toList [61]).1.toArray⟩
def eqB (s : ByteArray) : ByteArray := ⟨(Lib.cut s.data.toList [61]).2.1.toArray⟩
def eqC (s : ByteArray) : Bool := (Lib.cut s.data.toList [61]).2.2
theorem ext_z {a b : ByteArray} (h : a.data.toList = b.data.toList) : a = b := by
  cases a; cases b; simp at h; rw [h]
theorem eq_yes {x : ByteArray} (h : eqC x = true) : x.data.toList = (eqA x).data.toList ++ 61 :: (eqB x).data.toList := by
  rcases (cutE_is 61 x.data.toList).2 with ⟨_, h2⟩ | ⟨h2, _⟩
  · simpa [eqA, eqB] using h2
  · unfold eqC at h; rw [h2] at h; cases h
theorem eq_no {x : ByteArray} (h : eqC x = false) : x = eqA x ∧ (eqB x).size = 0 := by
  rcases (cutE_is 61 x.data.toList).2 with ⟨h2, _⟩ | ⟨_, h2, h3⟩
  · unfold eqC at h; rw [h2] at h; cases h
  · exact ⟨ext_z (by simpa [eqA] using h2), by show (Lib.cut x.data.toList [61]).2.1.toArray.size = 0; rw [h3]; rfl⟩
theorem eq_out (x : ByteArray) : (61 : UInt8) ∉ (eqA x).data.toList := by simpa [eqA] using (cutE_is 61 x.data.toList).1
/-- A name with its = behind it. -/
def NameEq (n name : ByteArray) : Prop := name.data.toList = n.data.toList ++ [61] ∧ (61 : UInt8) ∉ n.data.toList
theorem take_list (x : ByteArray) (k : Nat) : (x.extract 0 k).data.toList = x.data.toList.take k := by
  simp [List.extract_eq_take_drop]
theorem drop_list (x : ByteArray) (k : Nat) : (x.extract k x.size).data.toList = x.data.toList.drop k := by
  have hl : x.data.toList.length = x.size := by simp
  simp only [ByteArray.data_extract, Array.toList_extract, List.extract_eq_take_drop]
  rw [List.take_of_length_le (by rw [List.length_drop]; omega)]
theorem size_listZ (x : ByteArray) : x.size = x.data.toList.length := by simp
theorem take_at {c : UInt8} (a r : List UInt8) : (a ++ c :: r).take (a.length + 1) = a ++ [c] := by
  rw [show a ++ c :: r = (a ++ [c]) ++ r by simp, List.take_left' (by simp)]
theorem drop_at {c : UInt8} (a r : List UInt8) : (a ++ c :: r).drop (a.length + 1) = r := by
  rw [show a ++ c :: r = (a ++ [c]) ++ r by simp, List.drop_left' (by simp)]
theorem told_cut {x n name : ByteArray} (hn : NameEq n name) : (told x name).2 = (eqC x && (decide (eqA x = n) && numOk 10 15 (eqB x))) ∧ ((told x name).2 = true → (told x name).1 = minI 1000000000 (numV 10 15 (eqB x))) := by
  have hz : name.size = n.data.toList.length + 1 := by rw [size_listZ, hn.1]; simp
  cases hc : eqC x with
  | false =>
    obtain ⟨h1, h2⟩ := eq_no hc
    have ho := eq_out x
    rw [← h1] at ho
    have ht : ¬ x.extract 0 name.size = name := fun e => by
      have e2 : x.data.toList.take name.size = name.data.toList := by rw [← take_list, e]
      have : (61 : UInt8) ∈ x.data.toList.take name.size := by rw [e2, hn.1]; simp
      exact ho (List.mem_of_mem_take this)
    have k : told x name = (0, false) := by unfold told; rw [if_pos (.inr ht)]
    rw [k]
    exact ⟨rfl, fun h => by cases h⟩
  | true =>
    have hx := eq_yes hc
    have hxz : x.size = (eqA x).data.toList.length + 1 + (eqB x).data.toList.length := by rw [size_listZ, hx]; simp; omega
    by_cases he : eqA x = n
    · rw [decide_eq_true he, Bool.true_and, Bool.true_and]
      have hpre : x.extract 0 name.size = name := ext_z (by rw [take_list, hz, hx, he, hn.1]; exact take_at _ _)
      have hrest : x.extract name.size x.size = eqB x := ext_z (by rw [drop_list, hz, hx, he]; exact drop_at _ _)
      by_cases hv : (eqB x).size = 0
      · have k : told x name = (0, false) := by
          unfold told
          rw [if_pos (.inl (by rw [hxz, hz, he]; rw [size_listZ] at hv; omega))]
        rw [k, numOk_out (.inl (by omega))]
        exact ⟨rfl, fun h => by cases h⟩
      · have k : told x name = (minI 1000000000 (numV 10 15 (eqB x)), numOk 10 15 (eqB x)) := by
          unfold told
          rw [if_neg (by rintro (h | h); · rw [hxz, hz, he] at h; rw [size_listZ] at hv; omega
                         · exact h hpre), hrest]
        rw [k]
        exact ⟨rfl, fun _ => rfl⟩
    · rw [decide_eq_false he]
      have ht : ¬ x.extract 0 name.size = name := fun e => by
        have e2 : x.data.toList.take name.size = name.data.toList := by rw [← take_list, e]
        rw [hz, hx, hn.1] at e2
        exact he (ext_z (split_same hn.2 (eq_out x) e2))
      have k : told x name = (0, false) := by unfold told; rw [if_pos (.inr ht)]
      rw [k]
      exact ⟨rfl, fun h => by cases h⟩
def n0A : ByteArray := ⟨#[109, 97, 120, 45, 97, 103, 101]⟩
def n0S : ByteArray := ⟨#[115, 45, 109, 97, 120, 97, 103, 101]⟩
theorem nA_eq : NameEq n0A nmA := ⟨by decide, by decide⟩
theorem nS_eq : NameEq n0S nmS := ⟨by decide, by decide⟩
theorem nT_eq : NameEq wdT nmT := ⟨by decide, by decide⟩
theorem word_no {x wd : ByteArray} (h : eqC x = true) (hw : (61 : UInt8) ∉ wd.data.toList) : ¬ x = wd := fun e => hw (by rw [← e, eq_yes h]; simp)
theorem st4_yes {x : ByteArray} (h : eqC x = true) (c : Ct) : st4 c x = c := by
  unfold st4
  rw [if_neg (word_no h (by decide)), if_neg (word_no h (by decide)), if_neg (word_no h (by decide)), if_neg (word_no h (by decide)), if_neg (word_no h (by decide))]
/-- A number that is told, the first time. -/
def tell (before : Int) (v : ByteArray) : Int := if numOk 10 15 v = true ∧ before < 0 then minI 1000000000 (numV 10 15 v) else before
theorem st_num {b : Bool} {t : Int × Bool} {v : ByteArray} {before : Int} (h1 : t.2 = (true && (b && numOk 10 15 v))) (h2 : t.2 = true → t.1 = minI 1000000000 (numV 10 15 v)) : (if t.2 = true ∧ before < 0 then t.1 else before) = if b = true then tell before v else before := by
  unfold tell
  cases b with
  | false =>
    have : t.2 = false := by rw [h1]; rfl
    rw [if_neg (by rw [this]; exact fun h => by cases h.1), if_neg (by decide)]
  | true =>
    have h3 : t.2 = numOk 10 15 v := by rw [h1]; rfl
    rw [if_pos rfl, h3]
    by_cases h4 : numOk 10 15 v = true ∧ before < 0
    · rw [if_pos h4, if_pos h4, h2 (by rw [h3]; exact h4.1)]
    · rw [if_neg h4, if_neg h4]
theorem st1_is (c : Ct) (x : ByteArray) : st1 c x = { c with a := if (told x nmA).2 = true ∧ c.a < 0 then (told x nmA).1 else c.a } := by unfold st1; split <;> rfl
theorem st2_is (c : Ct) (x : ByteArray) : st2 c x = { c with s := if (told x nmS).2 = true ∧ c.s < 0 then (told x nmS).1 else c.s } := by unfold st2; split <;> rfl
theorem st3_is (c : Ct) (x : ByteArray) : st3 c x = { c with t := if (told x nmT).2 = true ∧ c.t < 0 then (told x nmT).1 else c.t } := by unfold st3; split <;> rfl
/-- With a = in it: the number that its name has is told. -/
theorem stp_yes {x : ByteArray} (h : eqC x = true) (c : Ct) : stp c x = { c with a := if eqA x = n0A then tell c.a (eqB x) else c.a, s := if eqA x = n0S then tell c.s (eqB x) else c.s, t := if eqA x = wdT then tell c.t (eqB x) else c.t } := by
  obtain ⟨a1, a2⟩ := told_cut (x := x) nA_eq
  obtain ⟨b1, b2⟩ := told_cut (x := x) nS_eq
  obtain ⟨t1, t2⟩ := told_cut (x := x) nT_eq
  rw [h] at a1 b1 t1
  unfold stp
  rw [st4_yes h, st3_is, st2_is, st1_is]
  simp only
  rw [st_num a1 a2, st_num b1 b2, st_num t1 t2]
  simp only [decide_eq_true_eq]
theorem told_none {x n name : ByteArray} (hn : NameEq n name) (h : eqC x = false) : (told x name).2 = false := by rw [(told_cut hn).1, h]; rfl
/-- Without one: a word. -/
theorem stp_no {x : ByteArray} (h : eqC x = false) (c : Ct) : stp c x = st4 c x := by
  unfold stp
  rw [st3_is, st2_is, st1_is]
  simp only [told_none nA_eq h, told_none nS_eq h, told_none nT_eq h, Bool.false_eq_true, false_and, if_false]
end Go.Proofs.YtkaogmdhjcgcdaaGreatDoor
namespace Go.Proofs.YtkaogmdhjcgcdaaGreatDoor
open Go.RowKit Go.Maps Go.ChangeMaps Go.WideMaps
set_option linter.unusedVariables false

theorem keyedF : Keyed Tryz.prog 9 := string_keyed Tryz.underlying9
def keyF (s : ByteArray) : Lit := .string s.data.toList
theorem keyF_of {s : ByteArray} (hs : s.size ≤ maxLen) : keyOf Tryz.prog 9 (.string s) = some (keyF s) := keyOf_string_mk Tryz.underlying9 hs
theorem keyF_ne {a b : ByteArray} (h : ¬ a = b) : keyF a ≠ keyF b := fun e => h (by
  have e2 : a.data.toList = b.data.toList := by simpa [keyF] using e
  cases a; cases b; simp at e2; rw [e2])
theorem keyF_key (s : ByteArray) : WideAt.IsKeyLit (keyF s) := trivial
/-- The method j, bound to the struct in block p. -/
def bound (p j : Nat) : Value := .func (.func j) #[.pointer (some ⟨p, 0, Option.none⟩)] #[]
/-- How such a value reads. -/
def fnE (p : Nat) (v : Value) : Option (DataW Unit × List MemPlace) := match v with
  | .func (.func j) first cap => match first.toList, cap.toList with
    | [.pointer (some ⟨q, 0, Option.none⟩)], [] => if q = p then some (.lit (.int .i64 (j : Int)), []) else none
    | _, _ => none
  | .nilFunc => some (.lit (.int .i64 (-1)), [])
  | _ => none
theorem fnE_mk (p j : Nat) : fnE p (bound p j) = some (.lit (.int .i64 (j : Int)), []) := by simp [fnE, bound]
theorem fnE_nil (p : Nat) : fnE p .nilFunc = some (.lit (.int .i64 (-1)), []) := rfl
theorem fnE_inv {p j : Nat} {v : Value} {ps : List MemPlace} (h : fnE p v = some (.lit (.int .i64 (j : Int)), ps)) : v = bound p j := by
  unfold fnE at h
  split at h
  · rename_i k first cap
    split at h
    · rename_i q h1 h2
      split at h
      · rename_i e
        subst e
        simp only [Option.some.injEq, Prod.mk.injEq, DataW.lit.injEq, Lit.int.injEq, true_and] at h
        have hj : k = j := Int.ofNat.inj h.1
        subst hj
        unfold bound
        have e1 : first = #[.pointer (some ⟨q, 0, Option.none⟩)] := Array.ext' (by simpa using h1)
        have e2 : cap = #[] := Array.ext' (by simpa using h2)
        rw [e1, e2]
      · cases h
    · cases h
  · simp only [Option.some.injEq, Prod.mk.injEq, DataW.lit.injEq, Lit.int.injEq, true_and] at h
    omega
  · cases h
theorem fnE_inv0 {p : Nat} {v : Value} {ps : List MemPlace} (h : fnE p v = some (.lit (.int .i64 (-1)), ps)) : v = .nilFunc := by
  unfold fnE at h
  split at h
  · rename_i k first cap
    split at h
    · split at h
      · simp only [Option.some.injEq, Prod.mk.injEq, DataW.lit.injEq, Lit.int.injEq, true_and] at h
        have := h.1
        exact absurd this (by
          have h0 : (0 : Int) ≤ (k : Int) := Int.natCast_nonneg k
          omega)
      · cases h
    · cases h
  · rfl
  · cases h
/-- What stands at a text: the last that was put there. -/
def lookF (t : List (ByteArray × Nat)) (s : ByteArray) : Option Nat := t.foldl (fun acc x => if x.1 = s then some x.2 else acc) none
theorem lookF_snoc (t : List (ByteArray × Nat)) (x : ByteArray × Nat) (s : ByteArray) : lookF (t ++ [x]) s = if x.1 = s then some x.2 else lookF t s := by unfold lookF; rw [List.foldl_append]; rfl
def datF (t : List (ByteArray × Nat)) : DataW Unit := t.foldl (fun D x => D.put (keyF x.1) (.lit (.int .i64 (x.2 : Int)))) (.map [])
theorem datF_snoc (t : List (ByteArray × Nat)) (x : ByteArray × Nat) : datF (t ++ [x]) = (datF t).put (keyF x.1) (.lit (.int .i64 (x.2 : Int))) := by unfold datF; rw [List.foldl_append]; rfl
/-- Block b is the map of the methods t, bound to the struct in block p. -/
def FnM (w : World) (b p : Nat) (t : List (ByteArray × Nat)) : Prop := w.ownsMap Tryz.prog 9 (fnE p) b t.length (datF t)
theorem FnM.made (w : World) (p : Nat) : FnM (w.alloc (.map #[] 0)) w.heap.size p [] := World.ownsMap_made _ _ _ _
theorem FnM.lt {w : World} {b p : Nat} {t : List (ByteArray × Nat)} (h : FnM w b p t) : b < w.heap.size := World.ownsMap.lt h
theorem FnM.grown {w w' : World} {b p : Nat} {t : List (ByteArray × Nat)} {r : Option Nat} (h : FnM w b p t) (hg : w.grownBy w' r) (hne : some b ≠ r) : FnM w' b p t := World.ownsMap.kept h hg hne
theorem FnM.kept {w w' : World} {b p : Nat} {t : List (ByteArray × Nat)} (h : FnM w b p t) (hb : Below w.heap.size w w') : FnM w' b p t :=
  World.ownsMap.kept h (row := none) ⟨hb.os, hb.tape, hb.output, hb.size, fun k hk _ => hb.block k hk⟩ (by simp)
theorem snoc_ind {α : Type} {Q : List α → Prop} (h0 : Q []) (h1 : ∀ t x, Q t → Q (t ++ [x])) (t : List α) : Q t := by
  have : ∀ u : List α, Q u.reverse := fun u => by
    induction u with
    | nil => exact h0
    | cons x u ih => rw [List.reverse_cons]; exact h1 _ _ ih
  have k := this t.reverse
  rw [List.reverse_reverse] at k
  exact k
theorem mapF (t : List (ByteArray × Nat)) : IsMap (datF t) := by
  refine snoc_ind (Q := fun t => IsMap (datF t)) ⟨[], rfl⟩ (fun t x ih => ?_) t
  rw [datF_snoc]
  obtain ⟨es, h⟩ := ih
  rw [h]
  exact ⟨_, rfl⟩
theorem hasF (s : ByteArray) : ∀ t : List (ByteArray × Nat), Maps.has (datF t) (keyF s) = (lookF t s).isSome ∧ ∀ z, (datF t).atKey (keyF s) z = match lookF t s with | some j => .lit (.int .i64 (j : Int)) | none => z := by
  refine snoc_ind (Q := fun t => Maps.has (datF t) (keyF s) = (lookF t s).isSome ∧ ∀ z, (datF t).atKey (keyF s) z = match lookF t s with | some j => .lit (.int .i64 (j : Int)) | none => z) ⟨rfl, fun z => rfl⟩ (fun t x ih => ?_)
  have hm0 : IsMap (datF t) := mapF t
  obtain ⟨h1, h2⟩ := ih
  rw [datF_snoc, lookF_snoc]
  by_cases e : x.1 = s
  · rw [if_pos e, e]
    exact ⟨has_put_same hm0 (keyF_key s) _, fun z => atKey_put_same hm0 (keyF_key s) _ z⟩
  · rw [if_neg e, has_put_other (keyF_ne (fun h => e h.symm))]
    exact ⟨h1, fun z => by rw [atKey_put_other (keyF_ne (fun h => e h.symm))]; exact h2 z⟩
/-- One more key, in the text of the map. -/
theorem wpList_insertF {ops : Array Oper} {rest : List Oper} {o : Oper} {a : Act} {Q : Exit → Act → World → Prop} (w : World) (hg : o.guard = Option.none) (m x v : Operand) (t e : TypeId) (hop : o.op = Op.insert t m x v) (ht : Tryz.prog.underlying t = some (.map 9 e))
    (b p : Nat) (tb : List (ByteArray × Nat)) (hm : a.eval m = .map (some b)) (h : FnM w b p tb) (hn : tb.length ≤ 1000) (s : ByteArray) (hs : s.size ≤ 1000) (j : Nat) (hx : a.eval x = .string s) (hv : a.eval v = bound p j)
    (hK : ∀ w', FnM w' b p (tb ++ [(s, j)]) → w.grownBy w' (some b) → wpList Tryz.prog ops Q rest (a.put o.dst undef) w') : wpList Tryz.prog ops Q (o :: rest) a w := by
  refine wpList_plain hg fun K' hK' => ?_
  obtain ⟨w', hrun, r1, r2⟩ := World.ownsMap.update h keyedF ht (by unfold maxLen; omega) (keyF_of (s := s) (by unfold maxLen; omega)) (fnE_mk p j)
  unfold Oper.wp
  simp [execOp, hop, hm, hx, hv, hrun, Result.andThen]
  refine hK' _ _ (hK w' ?_ r2)
  unfold FnM
  rw [datF_snoc, List.length_append]
  exact r1
/-- The map is asked. -/
theorem wpList_lookF {ops : Array Oper} {rest : List Oper} {o : Oper} {a : Act} {Q : Exit → Act → World → Prop} (w : World) (hg : o.guard = Option.none) (m x : Operand) (t e : TypeId) (hop : o.op = Op.lookup t m x true) (ht : Tryz.prog.underlying t = some (.map 9 e))
    (hz : (zeroValue e).run Tryz.prog w = .ok .nilFunc w) (b p : Nat) (tb : List (ByteArray × Nat)) (hm : a.eval m = .map (some b)) (h : FnM w b p tb) (s : ByteArray) (hs : s.size ≤ maxLen) (hx : a.eval x = .string s)
    (hno : lookF tb s = Option.none → wpList Tryz.prog ops Q rest (a.put o.dst (.tuple #[.nilFunc, .bool false])) w)
    (hyes : ∀ j, lookF tb s = some j → wpList Tryz.prog ops Q rest (a.put o.dst (.tuple #[bound p j, .bool true])) w) : wpList Tryz.prog ops Q (o :: rest) a w := by
  refine wpList_plain hg fun K' hK' => ?_
  obtain ⟨v, ps, hrun, hv⟩ := World.ownsMap.look_ok h keyedF ht hz (fnE_nil p) (keyF_of hs)
  obtain ⟨k1, k2⟩ := hasF s tb
  rw [k1] at hrun
  rw [k2] at hv
  unfold Oper.wp
  simp [execOp, hop, hm, hx, hrun, Result.andThen]
  cases hl : lookF tb s with
  | none =>
    rw [hl] at hv
    have e : v = .nilFunc := fnE_inv0 hv
    rw [e]
    exact hK' _ _ (hno hl)
  | some j =>
    rw [hl] at hv
    rw [fnE_inv hv]
    exact hK' _ _ (hyes j hl)
theorem wpList_lookF_no {ops : Array Oper} {rest : List Oper} {o : Oper} {a : Act} {Q : Exit → Act → World → Prop} (w : World) (hg : o.guard = Option.none) (m x : Operand) (t e : TypeId) (hop : o.op = Op.lookup t m x true) (ht : Tryz.prog.underlying t = some (.map 9 e))
    (hz : (zeroValue e).run Tryz.prog w = .ok .nilFunc w) (b p : Nat) (tb : List (ByteArray × Nat)) (hm : a.eval m = .map (some b)) (h : FnM w b p tb) (s : ByteArray) (hs : s.size ≤ maxLen) (hx : a.eval x = .string s) (hl : lookF tb s = Option.none)
    (hno : wpList Tryz.prog ops Q rest (a.put o.dst (.tuple #[.nilFunc, .bool false])) w) : wpList Tryz.prog ops Q (o :: rest) a w :=
  wpList_lookF w hg m x t e hop ht hz b p tb hm h s hs hx (fun _ => hno) (fun j hj => by rw [hl] at hj; cases hj)
theorem wpList_lookF_yes {ops : Array Oper} {rest : List Oper} {o : Oper} {a : Act} {Q : Exit → Act → World → Prop} (w : World) (hg : o.guard = Option.none) (m x : Operand) (t e : TypeId) (hop : o.op = Op.lookup t m x true) (ht : Tryz.prog.underlying t = some (.map 9 e))
    (hz : (zeroValue e).run Tryz.prog w = .ok .nilFunc w) (b p : Nat) (tb : List (ByteArray × Nat)) (hm : a.eval m = .map (some b)) (h : FnM w b p tb) (s : ByteArray) (hs : s.size ≤ maxLen) (hx : a.eval x = .string s) (j : Nat) (hl : lookF tb s = some j)
    (hyes : wpList Tryz.prog ops Q rest (a.put o.dst (.tuple #[.func (.func j) #[.pointer (some ⟨p, 0, Option.none⟩)] #[], .bool true])) w) : wpList Tryz.prog ops Q (o :: rest) a w :=
  wpList_lookF w hg m x t e hop ht hz b p tb hm h s hs hx (fun hn => by rw [hl] at hn; cases hn) (fun k hk => by
    rw [hl] at hk
    cases hk
    exact hyes)
end Go.Proofs.YtkaogmdhjcgcdaaGreatDoor
