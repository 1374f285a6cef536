/-
  The contracts of FieldsOk, the specification's and the program's.
  The bytes of a text appended to a row of bytes that a call owns; what stays where such a row grows.
  The contracts of Get, the specification's and the program's.
-/
import Derived.Test.YtemmgfnepdgpbaaDoorH12
import Derived.Test.YtemmgfnepdgpbaaDoorH04
import Derived.WalkKit
import Derived.WalkSpells
import Derived.Lib.AppendStr
namespace Go.Proofs.YtemmgfnepdgpbaaDoor
open Go.RowKit Go.Sort

set_option maxHeartbeats 400000 in
theorem specOk (v : Value) (l : List Fl) (w : World) (h : Fls w v l) (hz : szL l ≤ 1048576) :
    Calls Tryd.prog 28 #[v] w fun e w' => e = .returned (.bool (fldsOk l)) ∧ Below w.heap.size w w' := by
  obtain ⟨a, cap, rfl, h1, h2, h3⟩ := h
  unfold maxLen at h2
  by_cases hbig : 30 < l.length
  · have HN : Hid (false = fldsOk l) := fldsOk_long hbig
    go_enter Tryd.func28, Tryd.ntmps28
    go_wp2
    go_ret
    exact ⟨ret_bool HN.out, Below.refl _ _⟩
  · have HF : Hid (∀ b, b = l.all fldOk → b = fldsOk l) := fun b => fldsOk_all (by omega) b
    go_enter Tryd.func28, Tryd.ntmps28
    go_wp2
    go_loopw [3] (fun i wr => ∃ (k : Nat), k ≤ l.length ∧ i = .int .i64 k ∧ Hid ((l.take k).all fldOk = true) ∧ Below w.heap.size w wr) (fun i _ => l.length - (intOf i).toNat)
    case atStart => exact ⟨0, Nat.zero_le _, rfl, rfl, Below.refl _ _⟩
    case round =>
      obtain ⟨k, hk, rfl, hall, hb⟩ := hrel
      by_cases hlt : k < l.length
      · obtain ⟨g, o, rfl, hg, hc⟩ := h3 (by omega)
        have c1 := (hb.cell (p := ⟨g, o + k * 2, none⟩) hg).trans (hc k hlt).1
        have c2 := (hb.cell (p := ⟨g, o + k * 2 + 1, none⟩) hg).trans (hc k hlt).2
        have hsz := szL_at hlt
        cases hf : fldOk l[k] with
        | false =>
          have HN : Hid (false = fldsOk l) := HF.out _ (all_no hlt hf)
          generalize l[k] = f at c1 c2 hsz hf
          clear hc h3
          go_wp2_with (go_at_call 41; refine (specFld f _ (by omega) (by omega)).mono ?_; rw [hf]; rintro e w1 ⟨rfl, hb1⟩)
          go_ret
          exact ⟨ret_bool HN.out, hb.trans (hb1.mono hb.size)⟩
        | true =>
          have HN : Hid ((l.take (k + 1)).all fldOk = true) := all_yes hlt hall.out hf
          generalize l[k] = f at c1 c2 hsz hf
          clear hc h3
          go_wp2_with (go_at_call 41; refine (specFld f _ (by omega) (by omega)).mono ?_; rw [hf]; rintro e w1 ⟨rfl, hb1⟩)
          go_roundw
          case rel => exact ⟨k + 1, by omega, by go_num, HN, hb.trans (hb1.mono hb.size)⟩
          case measure => simp [intOf]; omega
      · have HN : Hid (true = fldsOk l) := HF.out _ (all_end hlt hall.out)
        go_wp2
        go_ret
        exact ⟨ret_bool HN.out, hb⟩

set_option maxHeartbeats 400000 in
theorem implOk (v : Value) (l : List Fl) (w : World) (h : Fls w v l) (hz : szL l ≤ 1048576) :
    Calls Tryd.prog 35 #[v] w fun e w' => e = .returned (.bool (fldsOk l)) ∧ Below w.heap.size w w' := by
  obtain ⟨a, cap, rfl, h1, h2, h3⟩ := h
  unfold maxLen at h2
  by_cases hbig : 30 < l.length
  · have HN : Hid (false = fldsOk l) := fldsOk_long hbig
    go_enter Tryd.func35, Tryd.ntmps35
    go_wp2
    go_ret
    exact ⟨ret_bool HN.out, Below.refl _ _⟩
  · have HF : Hid (∀ b, b = l.all fldOk → b = fldsOk l) := fun b => fldsOk_all (by omega) b
    go_enter Tryd.func35, Tryd.ntmps35
    go_wp2
    go_loopw [10] (fun i wr => ∃ (k : Nat), k ≤ l.length ∧ i = .int .i64 k ∧ Hid ((l.take k).all fldOk = true) ∧ Below w.heap.size w wr) (fun i _ => l.length - (intOf i).toNat)
    case atStart => exact ⟨0, Nat.zero_le _, rfl, rfl, Below.refl _ _⟩
    case round =>
      obtain ⟨k, hk, rfl, hall, hb⟩ := hrel
      by_cases hlt : k < l.length
      · obtain ⟨g, o, rfl, hg, hc⟩ := h3 (by omega)
        have c1 := (hb.cell (p := ⟨g, o + k * 2, none⟩) hg).trans (hc k hlt).1
        have c2 := (hb.cell (p := ⟨g, o + k * 2 + 1, none⟩) hg).trans (hc k hlt).2
        have hsz := szL_at hlt
        cases hf : fldOk l[k] with
        | false =>
          have HN : Hid (false = fldsOk l) := HF.out _ (all_no hlt hf)
          generalize l[k] = f at c1 c2 hsz hf
          clear hc h3
          go_wp2_with (go_at_call 44; refine (implFld f _ (by omega) (by omega)).mono ?_; rw [hf]; rintro e w1 ⟨rfl, hb1⟩)
          go_ret
          exact ⟨ret_bool HN.out, (hb.alloc hb.size _).trans (hb1.mono (by have := hb.size; simp; omega))⟩
        | true =>
          have HN : Hid ((l.take (k + 1)).all fldOk = true) := all_yes hlt hall.out hf
          generalize l[k] = f at c1 c2 hsz hf
          clear hc h3
          go_wp2_with (go_at_call 44; refine (implFld f _ (by omega) (by omega)).mono ?_; rw [hf]; rintro e w1 ⟨rfl, hb1⟩)
          go_roundw
          case rel => exact ⟨k + 1, by omega, by go_num, HN, (hb.alloc hb.size _).trans (hb1.mono (by have := hb.size; simp; omega))⟩
          case measure => simp [intOf]; omega
      · have HN : Hid (true = fldsOk l) := HF.out _ (all_end hlt hall.out)
        go_wp2
        go_ret
        exact ⟨ret_bool HN.out, hb⟩
end Go.Proofs.YtemmgfnepdgpbaaDoor
namespace Go.Proofs.YtemmgfnepdgpbaaDoor
open Go.RowKit

theorem wpList_pushStr {ops : Array Oper} {rest : List Oper} {o : Oper} {a : Act} {Q : Exit → Act → World → Prop} (w : World) (hgd : o.guard = none) (s x : Operand)
    (ho : o.op = .call { callee := .builtin .append, args := #[s, x], argTypes := #[64, 9] }) (B : Nat) (v : Value) (l : List UInt8) (t : ByteArray) (hs : a.eval s = v) (hown : OwnsB w B v l)
    (hx : a.eval x = .string t) (hlen : l.length + t.size ≤ 1000000) (hB : B ≤ w.heap.size)
    (h : ∀ v' w', OwnsB w' B v' (l ++ t.data.toList) → w.grownBy w' v.ownBlock → wpList Tryd.prog ops Q rest (a.put o.dst v') w') :
    wpList Tryd.prog ops Q (o :: rest) a w := by
  obtain ⟨i0, hi, hz0, hz1, hz2⟩ := info_parts Tryd.info5
  refine Lib.wpList_append_own_string _ hgd s x 64 9 ho B 5 i0 Tryd.underlying64 Tryd.underlying9 hi hz0 hz1 hz2 v l.length (bytesV l) hs hown t hx (by unfold maxLen; omega) (by omega) hB ?_
  intro v' w' h1 h2 _
  refine h v' w' ?_ h2
  unfold OwnsB
  have e : bytesV (l ++ t.data.toList) = bytesV l ++ Lib.strCells t := by
    unfold bytesV Lib.strCells
    rw [List.map_append]
  rw [e, List.length_append, show t.data.toList.length = t.size from by simp]
  exact h1
/-- The same, as one step of a region that draws its order. -/
theorem step_ownStr {ops : Array Oper} {o : Oper} {a : Act} {w : World} {K : Act → World → Prop} {Q : Exit → Act → World → Prop} {E : Prop} (hg : o.guard = none) (s x : Operand)
    (ho : o.op = .call { callee := .builtin .append, args := #[s, x], argTypes := #[64, 9] }) (B : Nat) (v : Value) (l : List UInt8) (t : ByteArray) (hs : a.eval s = v) (hown : OwnsB w B v l)
    (hx : a.eval x = .string t) (hlen : l.length + t.size ≤ 1000000) (hB : B ≤ w.heap.size)
    (h : ∀ v' w', OwnsB w' B v' (l ++ t.data.toList) → w.grownBy w' v.ownBlock → K (a.put o.dst v') w') :
    if Region.wanted o (yielded ops a.tmps) = true then Oper.wp Tryd.prog o a w K Q else E := by
  have hw : Region.wanted o (yielded ops a.tmps) = true := by simp [Region.wanted, hg]
  rw [if_pos hw]
  obtain ⟨i0, hi, hz0, hz1, hz2⟩ := info_parts Tryd.info5
  obtain ⟨v', w', hr, h2, h3, h4⟩ := Lib.run_append_own_string (P := Tryd.prog) w B 64 9 o.type 5 i0 Tryd.underlying64 Tryd.underlying9 hi hz0 hz1 hz2 v l.length (bytesV l) hown t (by unfold maxLen; omega) (by omega) hB
  unfold Oper.wp execOp
  simp only [ho, resolve, invoke, builtin, Sem.run_bind, Sem.run_pure, Result.andThen_ok, List.map_toArray, List.map_cons, List.map_nil, hs, hx, hr]
  refine h v' w' ?_ h3
  unfold OwnsB
  have e : bytesV (l ++ t.data.toList) = bytesV l ++ Lib.strCells t := by
    unfold bytesV Lib.strCells
    rw [List.map_append]
  rw [e, List.length_append, show t.data.toList.length = t.size from by simp]
  exact h2
theorem grown_cell {w w' : World} {r : Option Nat} {b j : Nat} {v : Value} (h : w.grownBy w' r) (hc : w.cell? ⟨b, j, none⟩ = some v) (hb : b < w.heap.size) (hne : ∀ k, r = some k → k ≠ b) : w'.cell? ⟨b, j, none⟩ = some v := by
  rw [← hc]
  simp only [World.cell?]
  rw [h.block b hb (fun e => hne b e.symm rfl)]
theorem OwnsB.under {w : World} {B : Nat} {v : Value} {l : List UInt8} (h : OwnsB w B v l) : ∀ k, v.ownBlock = some k → k < w.heap.size := fun k hk => (World.ownsRow.lt h k hk).2
end Go.Proofs.YtemmgfnepdgpbaaDoor
namespace Go.Proofs.YtemmgfnepdgpbaaDoor
open Go.RowKit Go.Sort

/-- What Get answers. -/
def getE (p : ByteArray × Bool) : Value := .tuple #[.string p.1, .bool p.2]
theorem ret_get {p : ByteArray × Bool} {x : ByteArray} {b : Bool} (h : (x, b) = p) : Ending.returned (.tuple #[.string x, .bool b]) = .returned (getE p) := by subst h; rfl
theorem same_no {a b : ByteArray} (h : ¬ a = b) : (a.toList == b.toList) = false := by rw [str_eq]; simp [h]
theorem same_yes {a b : ByteArray} (h : a = b) : (a.toList == b.toList) = true := by rw [str_eq]; simp [h]

end Go.Proofs.YtemmgfnepdgpbaaDoor
