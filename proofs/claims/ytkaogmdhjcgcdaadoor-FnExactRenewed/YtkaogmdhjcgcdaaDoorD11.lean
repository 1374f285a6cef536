/-
  The contracts of FieldsOk, the specification's and the program's.
  The bytes of a text appended to a row of bytes that a call owns; what stays where such a row grows.
  The contracts of Get, the specification's and the program's.
  The specification's Get of any fields.
-/
import Derived.Test.YtkaogmdhjcgcdaaDoorD10
import Derived.Test.YtkaogmdhjcgcdaaDoorD04
import Derived.WalkKit
import Derived.WalkSpells
import Derived.Lib.AppendStr
namespace Go.Proofs.YtkaogmdhjcgcdaaDoor
open Go.RowKit Go.Sort

set_option maxHeartbeats 400000 in
theorem specOk (v : Value) (l : List Fl) (w : World) (h : Fls w v l) (hz : szL l ≤ 1048576) :
    Calls Tryd.prog 20 #[v] w fun e w' => e = .returned (.bool (fldsOk l)) ∧ Below w.heap.size w w' := by
  obtain ⟨a, cap, rfl, h1, h2, h3⟩ := h
  unfold maxLen at h2
  by_cases hbig : 30 < l.length
  · have HN : Hid (false = fldsOk l) := fldsOk_long hbig
    go_enter Tryd.func20, Tryd.ntmps20
    go_wp2
    go_ret
    exact ⟨ret_bool HN.out, Below.refl _ _⟩
  · have HF : Hid (∀ b, b = l.all fldOk → b = fldsOk l) := fun b => fldsOk_all (by omega) b
    go_enter Tryd.func20, Tryd.ntmps20
    go_wp2
    go_loopw [3] (fun i wr => ∃ (k : Nat), k ≤ l.length ∧ i = .int .i64 k ∧ Hid ((l.take k).all fldOk = true) ∧ Below w.heap.size w wr) (fun i _ => l.length - (intOf i).toNat)
    case atStart => exact ⟨0, Nat.zero_le _, rfl, rfl, Below.refl _ _⟩
    case round =>
      obtain ⟨k, hk, rfl, hall, hb⟩ := hrel
      by_cases hlt : k < l.length
      · obtain ⟨g, o, rfl, hg, hc⟩ := h3 (by omega)
        have c1 := (hb.cell (p := ⟨g, o + k * 2, none⟩) hg).trans (hc k hlt).1
        have c2 := (hb.cell (p := ⟨g, o + k * 2 + 1, none⟩) hg).trans (hc k hlt).2
        have hsz := szL_at hlt
        cases hf : fldOk l[k] with
        | false =>
          have HN : Hid (false = fldsOk l) := HF.out _ (all_no hlt hf)
          generalize l[k] = f at c1 c2 hsz hf
          clear hc h3
          go_wp2_with (go_at_call 38; refine (specFld f _ (by omega) (by omega)).mono ?_; rw [hf]; rintro e w1 ⟨rfl, hb1⟩)
          go_ret
          exact ⟨ret_bool HN.out, hb.trans (hb1.mono hb.size)⟩
        | true =>
          have HN : Hid ((l.take (k + 1)).all fldOk = true) := all_yes hlt hall.out hf
          generalize l[k] = f at c1 c2 hsz hf
          clear hc h3
          go_wp2_with (go_at_call 38; refine (specFld f _ (by omega) (by omega)).mono ?_; rw [hf]; rintro e w1 ⟨rfl, hb1⟩)
          go_roundw
          case rel => exact ⟨k + 1, by omega, by go_num, HN, hb.trans (hb1.mono hb.size)⟩
          case measure => simp [intOf]; omega
      · have HN : Hid (true = fldsOk l) := HF.out _ (all_end hlt hall.out)
        go_wp2
        go_ret
        exact ⟨ret_bool HN.out, hb⟩

set_option maxHeartbeats 400000 in
theorem implOk (v : Value) (l : List Fl) (w : World) (h : Fls w v l) (hz : szL l ≤ 1048576) :
    Calls Tryd.prog 26 #[v] w fun e w' => e = .returned (.bool (fldsOk l)) ∧ Below w.heap.size w w' := by
  obtain ⟨a, cap, rfl, h1, h2, h3⟩ := h
  unfold maxLen at h2
  by_cases hbig : 30 < l.length
  · have HN : Hid (false = fldsOk l) := fldsOk_long hbig
    go_enter Tryd.func26, Tryd.ntmps26
    go_wp2
    go_ret
    exact ⟨ret_bool HN.out, Below.refl _ _⟩
  · have HF : Hid (∀ b, b = l.all fldOk → b = fldsOk l) := fun b => fldsOk_all (by omega) b
    go_enter Tryd.func26, Tryd.ntmps26
    go_wp2
    go_loopw [10] (fun i wr => ∃ (k : Nat), k ≤ l.length ∧ i = .int .i64 k ∧ Hid ((l.take k).all fldOk = true) ∧ Below w.heap.size w wr) (fun i _ => l.length - (intOf i).toNat)
    case atStart => exact ⟨0, Nat.zero_le _, rfl, rfl, Below.refl _ _⟩
    case round =>
      obtain ⟨k, hk, rfl, hall, hb⟩ := hrel
      by_cases hlt : k < l.length
      · obtain ⟨g, o, rfl, hg, hc⟩ := h3 (by omega)
        have c1 := (hb.cell (p := ⟨g, o + k * 2, none⟩) hg).trans (hc k hlt).1
        have c2 := (hb.cell (p := ⟨g, o + k * 2 + 1, none⟩) hg).trans (hc k hlt).2
        have hsz := szL_at hlt
        cases hf : fldOk l[k] with
        | false =>
          have HN : Hid (false = fldsOk l) := HF.out _ (all_no hlt hf)
          generalize l[k] = f at c1 c2 hsz hf
          clear hc h3
          go_wp2_with (go_at_call 42; refine (implFld f _ (by omega) (by omega)).mono ?_; rw [hf]; rintro e w1 ⟨rfl, hb1⟩)
          go_ret
          exact ⟨ret_bool HN.out, (hb.alloc hb.size _).trans (hb1.mono (by have := hb.size; simp; omega))⟩
        | true =>
          have HN : Hid ((l.take (k + 1)).all fldOk = true) := all_yes hlt hall.out hf
          generalize l[k] = f at c1 c2 hsz hf
          clear hc h3
          go_wp2_with (go_at_call 42; refine (implFld f _ (by omega) (by omega)).mono ?_; rw [hf]; rintro e w1 ⟨rfl, hb1⟩)
          go_roundw
          case rel => exact ⟨k + 1, by omega, by go_num, HN, (hb.alloc hb.size _).trans (hb1.mono (by have := hb.size; simp; omega))⟩
          case measure => simp [intOf]; omega
      · have HN : Hid (true = fldsOk l) := HF.out _ (all_end hlt hall.out)
        go_wp2
        go_ret
        exact ⟨ret_bool HN.out, hb⟩
end Go.Proofs.YtkaogmdhjcgcdaaDoor
namespace Go.Proofs.YtkaogmdhjcgcdaaDoor
open Go.RowKit

theorem wpList_pushStr {ops : Array Oper} {rest : List Oper} {o : Oper} {a : Act} {Q : Exit → Act → World → Prop} (w : World) (hgd : o.guard = none) (s x : Operand)
    (ho : o.op = .call { callee := .builtin .append, args := #[s, x], argTypes := #[76, 9] }) (B : Nat) (v : Value) (l : List UInt8) (t : ByteArray) (hs : a.eval s = v) (hown : OwnsB w B v l)
    (hx : a.eval x = .string t) (hlen : l.length + t.size ≤ 1000000) (hB : B ≤ w.heap.size)
    (h : ∀ v' w', OwnsB w' B v' (l ++ t.data.toList) → w.grownBy w' v.ownBlock → wpList Tryd.prog ops Q rest (a.put o.dst v') w') :
    wpList Tryd.prog ops Q (o :: rest) a w := by
  obtain ⟨i0, hi, hz0, hz1, hz2⟩ := info_parts Tryd.info5
  refine Lib.wpList_append_own_string _ hgd s x 76 9 ho B 5 i0 Tryd.underlying76 Tryd.underlying9 hi hz0 hz1 hz2 v l.length (bytesV l) hs hown t hx (by unfold maxLen; omega) (by omega) hB ?_
  intro v' w' h1 h2 _
  refine h v' w' ?_ h2
  unfold OwnsB
  have e : bytesV (l ++ t.data.toList) = bytesV l ++ Lib.strCells t := by
    unfold bytesV Lib.strCells
    rw [List.map_append]
  rw [e, List.length_append, show t.data.toList.length = t.size from by simp]
  exact h1
theorem grown_cell {w w' : World} {r : Option Nat} {b j : Nat} {v : Value} (h : w.grownBy w' r) (hc : w.cell? ⟨b, j, none⟩ = some v) (hb : b < w.heap.size) (hne : ∀ k, r = some k → k ≠ b) : w'.cell? ⟨b, j, none⟩ = some v := by
  rw [← hc]
  simp only [World.cell?]
  rw [h.block b hb (fun e => hne b e.symm rfl)]
theorem OwnsB.under {w : World} {B : Nat} {v : Value} {l : List UInt8} (h : OwnsB w B v l) : ∀ k, v.ownBlock = some k → k < w.heap.size := fun k hk => (World.ownsRow.lt h k hk).2
end Go.Proofs.YtkaogmdhjcgcdaaDoor
namespace Go.Proofs.YtkaogmdhjcgcdaaDoor
open Go.RowKit Go.Sort

/-- What Get answers. -/
def getE (p : ByteArray × Bool) : Value := .tuple #[.string p.1, .bool p.2]
theorem ret_get {p : ByteArray × Bool} {x : ByteArray} {b : Bool} (h : (x, b) = p) : Ending.returned (.tuple #[.string x, .bool b]) = .returned (getE p) := by subst h; rfl
theorem same_no {a b : ByteArray} (h : ¬ a = b) : (a.toList == b.toList) = false := by rw [str_eq]; simp [h]
theorem same_yes {a b : ByteArray} (h : a = b) : (a.toList == b.toList) = true := by rw [str_eq]; simp [h]

end Go.Proofs.YtkaogmdhjcgcdaaDoor
namespace Go.Proofs.YtkaogmdhjcgcdaaDoor
open Go.RowKit

set_option maxHeartbeats 1000000 in
theorem specGetN (v : Value) (l : List Fl) (n : ByteArray) (w : World) (h : Fls w v l) (hz : szL l ≤ 1048576) (hl : l.length ≤ 1048576) (hn : n.size ≤ 1048576) :
    Calls Tryd.prog 57 #[v, .string n] w fun e w' => e = .returned (getE (getF l n)) ∧ Below w.heap.size w w' := by
  obtain ⟨a, cap, rfl, h1, h2, h3⟩ := h
  unfold maxLen at h2
  have hnm : n.size ≤ maxLen := by unfold maxLen; omega
  go_enter Tryd.func57, Tryd.ntmps57
  go_wp2
  go_loopw [6, 7, 8] (fun s b i wr => ∃ (k : Nat) (x : ByteArray) (fd : Bool), k ≤ l.length ∧ i = .int .i64 k ∧ s = .string x ∧ b = .bool fd ∧ x.size ≤ szL (l.take k) + 2 * k ∧ Hid (getF (l.take k) n = (x, fd)) ∧ Below w.heap.size w wr) (fun _ _ i _ => l.length - (intOf i).toNat)
  case atStart => exact ⟨0, ⟨#[]⟩, false, Nat.zero_le _, rfl, rfl, rfl, Nat.zero_le _, rfl, Below.refl _ _⟩
  case round =>
    obtain ⟨k, x, fd, hk, rfl, rfl, rfl, hxs, hget, hb⟩ := hrel
    by_cases hlt : k < l.length
    · obtain ⟨g, o, rfl, hg, hc⟩ := h3 (by omega)
      have c1 := (hb.cell (p := ⟨g, o + k * 2, none⟩) hg).trans (hc k hlt).1
      have c2 := (hb.cell (p := ⟨g, o + k * 2 + 1, none⟩) hg).trans (hc k hlt).2
      have hsz := szL_at hlt
      have hst := szL_take l k
      have hsn := szL_next hlt
      have hnx := getF_next n hlt
      rw [hget.out] at hnx
      generalize l[k] = f at c1 c2 hsz hnx hsn
      have HSN : Hid _ := hsn
      have HST : Hid _ := hst
      have zx : x.size ≤ 3145728 := by omega
      have zf : f.1.size ≤ 1048576 ∧ f.2.size ≤ 1048576 := by omega
      obtain ⟨zf1, zf2⟩ := zf
      clear hsn hst
      have hgr : g < wr.heap.size := Nat.lt_of_lt_of_le hg hb.size
      have z1 : f.1.size ≤ maxLen := by unfold maxLen; omega
      clear hc h3
      by_cases he : lowS f.1 = lowS n
      · have hq := same_yes he
        cases fd with
        | false =>
          rw [gStep_first he] at hnx
          have HN : Hid (getF (l.take (k + 1)) n = (x ++ f.2, true)) := hnx
          clear hnx he
          go_wp2_with fail
          refine (specLow _ _ z1).mono ?_
          rintro e w1 ⟨rfl, hb1⟩
          have d2 := (hb1.cell (p := ⟨g, o + k * 2 + 1, none⟩) hgr).trans c2
          go_wp2_with fail
          refine (specLow _ _ hnm).mono ?_
          rintro e w2 ⟨rfl, hb2⟩
          have e2 := (hb2.cell (p := ⟨g, o + k * 2 + 1, none⟩) (Nat.lt_of_lt_of_le hgr hb1.size)).trans d2
          have hb02 : Below w.heap.size w w2 := (hb.trans (hb1.mono hb.size)).trans (hb2.mono (Nat.le_trans hb.size hb1.size))
          clear c1 c2 d2 hb hb1 hb2
          go_wp2
          go_roundw
          case rel => exact ⟨k + 1, _, true, by omega, by go_num, rfl, rfl, by have hsn := HSN.out; rw [ByteArray.size_append]; omega, HN, hb02⟩
          case measure => simp [intOf]; omega
        | true =>
          rw [gStep_more he] at hnx
          have HN : Hid (getF (l.take (k + 1)) n = (x ++ ⟨#[44, 32]⟩ ++ f.2, true)) := hnx
          clear hnx he
          have zz : (x ++ (⟨#[44, 32]⟩ : ByteArray)).size = x.size + 2 := by rw [ByteArray.size_append]; rfl
          go_wp2_with fail
          refine (specLow _ _ z1).mono ?_
          rintro e w1 ⟨rfl, hb1⟩
          have d2 := (hb1.cell (p := ⟨g, o + k * 2 + 1, none⟩) hgr).trans c2
          go_wp2_with fail
          refine (specLow _ _ hnm).mono ?_
          rintro e w2 ⟨rfl, hb2⟩
          have e2 := (hb2.cell (p := ⟨g, o + k * 2 + 1, none⟩) (Nat.lt_of_lt_of_le hgr hb1.size)).trans d2
          have hb02 : Below w.heap.size w w2 := (hb.trans (hb1.mono hb.size)).trans (hb2.mono (Nat.le_trans hb.size hb1.size))
          clear c1 c2 d2 hb hb1 hb2
          go_wp2
          go_roundw
          case rel => exact ⟨k + 1, _, true, by omega, by go_num, rfl, rfl, by have hsn := HSN.out; rw [ByteArray.size_append, zz]; omega, HN, hb02⟩
          case measure => simp [intOf]; omega
      · have hq := same_no he
        rw [gStep_no he] at hnx
        have HN : Hid (getF (l.take (k + 1)) n = (x, fd)) := hnx
        clear hnx he
        go_wp2_with fail
        refine (specLow _ _ z1).mono ?_
        rintro e w1 ⟨rfl, hb1⟩
        go_wp2_with fail
        refine (specLow _ _ hnm).mono ?_
        rintro e w2 ⟨rfl, hb2⟩
        have hb02 : Below w.heap.size w w2 := (hb.trans (hb1.mono hb.size)).trans (hb2.mono (Nat.le_trans hb.size hb1.size))
        clear c1 c2 hb hb1 hb2
        go_wp2
        go_roundw
        case rel => exact ⟨k + 1, _, fd, by omega, by go_num, rfl, rfl, by have hsn := HSN.out; omega, HN, hb02⟩
        case measure => simp [intOf]; omega
    · have HN : Hid ((x, fd) = getF l n) := by rw [← getF_end n hlt]; exact hget.out.symm
      go_wp2
      go_ret2
      exact ⟨ret_get HN.out, hb⟩

end Go.Proofs.YtkaogmdhjcgcdaaDoor
