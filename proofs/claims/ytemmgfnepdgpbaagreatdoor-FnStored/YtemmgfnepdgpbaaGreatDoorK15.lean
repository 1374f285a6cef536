/-
  The contracts of 'a field is right', the specification's and the program's.
  The contract of 'a field is right', the program's.
  The contracts of FieldsOk, the specification's and the program's.
  The bytes of a text appended to a row of bytes that a call owns; what stays where such a row grows.
-/
import Derived.Test.YtemmgfnepdgpbaaGreatDoorK06
import Derived.Test.YtemmgfnepdgpbaaGreatDoorK14
import Derived.Deep.RegionWith
import Derived.Test.YtemmgfnepdgpbaaGreatDoorK04
import Derived.WalkKit
import Derived.WalkSpells
import Derived.Lib.AppendStr
namespace Go.Proofs.YtemmgfnepdgpbaaGreatDoor
open Go.RowKit Go.Sort

theorem box0 (w : World) (f : Fl) (t : TypeId) : (w.alloc (.cells #[.string f.1, .string f.2] t)).cell? ⟨w.heap.size, 0, none⟩ = some (.string f.1) := by rw [World.cell?_alloc_mark]; rfl
theorem box1 (w : World) (f : Fl) (t : TypeId) : (w.alloc (.cells #[.string f.1, .string f.2] t)).cell? ⟨w.heap.size, 1, none⟩ = some (.string f.2) := by rw [World.cell?_alloc_mark]; rfl
theorem box_lt (w : World) (o : Obj) : w.heap.size < (w.alloc o).heap.size := by simp

set_option maxHeartbeats 1000000 in
theorem specFld (f : Fl) (w : World) (h1 : f.1.size ≤ 1048576) (h2 : f.2.size ≤ 1048576) :
    Calls Tryz.prog 66 #[.agg #[.string f.1, .string f.2]] w fun e w' => e = .returned (.bool (fldOk f)) ∧ Below w.heap.size w w' := by
  have z1 : f.1.size ≤ maxLen := by unfold maxLen; omega
  have z2 : f.2.size ≤ maxLen := by unfold maxLen; omega
  have b0 := box0 w f 83
  have b1 := box1 w f 83
  have bl := box_lt w (.cells #[.string f.1, .string f.2] 83)
  have hbb := (Below.refl w.heap.size w).alloc (Nat.le_refl _) (.cells #[.string f.1, .string f.2] 83)
  cases ht : tokB f.1 with
  | false =>
    have HN : Hid (false = fldOk f) := fldOk_tok ht
    go_enter Tryz.func66, Tryz.ntmps66
    go_wp2
    first | go_region_with (go_at_call 93; refine (specTok _ _ z1).mono ?_; rw [ht]; rintro e w1 ⟨rfl, hb1⟩) | fail
    all_goals
      go_wp2
      go_ret
      exact ⟨ret_bool HN.out, hbb.trans ((show Below (w.alloc (.cells #[.string f.1, .string f.2] 83)).heap.size (w.alloc (.cells #[.string f.1, .string f.2] 83)) _ from ⟨hb1.os, hb1.tape, hb1.output, hb1.size, hb1.block⟩).mono (Nat.le_of_lt bl))⟩
  | true =>
    cases hv : visB f.2 with
    | false =>
      have HN : Hid (false = fldOk f) := fldOk_vis ht hv
      go_enter Tryz.func66, Tryz.ntmps66
      go_wp2
      first | go_region_with (first | (go_at_call 93; refine (specTok _ _ z1).mono ?_; rw [ht]; rintro e w1 ⟨rfl, hb1⟩; have x1 := (hb1.cell (p := ⟨w.heap.size, 1, none⟩) bl).trans b1) | (go_at_call 94; refine (specVis _ _ z2).mono ?_; rw [hv]; rintro e w2 ⟨rfl, rfl⟩)) | fail
      all_goals
        go_wp2
        go_ret
        exact ⟨ret_bool HN.out, hbb.trans ((show Below (w.alloc (.cells #[.string f.1, .string f.2] 83)).heap.size (w.alloc (.cells #[.string f.1, .string f.2] 83)) _ from ⟨hb1.os, hb1.tape, hb1.output, hb1.size, hb1.block⟩).mono (Nat.le_of_lt bl))⟩
    | true =>
      have HN : Hid (((trimB f.2).toList == f.2.toList) = fldOk f) := fldOk_same ht hv
      go_enter Tryz.func66, Tryz.ntmps66
      go_wp2
      first | go_region_with (first | (go_at_call 93; refine (specTok _ _ z1).mono ?_; rw [ht]; rintro e w1 ⟨rfl, hb1⟩; have x1 := (hb1.cell (p := ⟨w.heap.size, 1, none⟩) bl).trans b1) | (go_at_call 94; refine (specVis _ _ z2).mono ?_; rw [hv]; rintro e w2 ⟨rfl, rfl⟩) | (go_at_call 95; refine (specTrim _ _ h2).mono ?_; rintro e w3 ⟨rfl, rfl⟩)) | fail
      all_goals
        go_wp2
        go_ret
        exact ⟨ret_bool HN.out, hbb.trans ((show Below (w.alloc (.cells #[.string f.1, .string f.2] 83)).heap.size (w.alloc (.cells #[.string f.1, .string f.2] 83)) _ from ⟨hb1.os, hb1.tape, hb1.output, hb1.size, hb1.block⟩).mono (Nat.le_of_lt bl))⟩
end Go.Proofs.YtemmgfnepdgpbaaGreatDoor
namespace Go.Proofs.YtemmgfnepdgpbaaGreatDoor
open Go.RowKit Go.Sort

set_option maxHeartbeats 1000000 in
theorem implFld (f : Fl) (w : World) (h1 : f.1.size ≤ 1048576) (h2 : f.2.size ≤ 1048576) :
    Calls Tryz.prog 85 #[.agg #[.string f.1, .string f.2]] w fun e w' => e = .returned (.bool (fldOk f)) ∧ Below w.heap.size w w' := by
  have z1 : f.1.size ≤ maxLen := by unfold maxLen; omega
  have z2 : f.2.size ≤ maxLen := by unfold maxLen; omega
  have b0 := box0 w f 83
  have b1 := box1 w f 83
  have bl := box_lt w (.cells #[.string f.1, .string f.2] 83)
  have hbb := (Below.refl w.heap.size w).alloc (Nat.le_refl _) (.cells #[.string f.1, .string f.2] 83)
  cases ht : tokB f.1 with
  | false =>
    have HN : Hid (false = fldOk f) := fldOk_tok ht
    go_enter Tryz.func85, Tryz.ntmps85
    go_wp2
    first | go_region_with (go_at_call 117; refine (implTok _ _ z1).mono ?_; rw [ht]; rintro e w1 ⟨rfl, hb1⟩) | fail
    all_goals
      go_wp2
      go_ret
      exact ⟨ret_bool HN.out, hbb.trans ((show Below (w.alloc (.cells #[.string f.1, .string f.2] 83)).heap.size (w.alloc (.cells #[.string f.1, .string f.2] 83)) _ from ⟨hb1.os, hb1.tape, hb1.output, hb1.size, hb1.block⟩).mono (Nat.le_of_lt bl))⟩
  | true =>
    cases hv : visB f.2 with
    | false =>
      have HN : Hid (false = fldOk f) := fldOk_vis ht hv
      go_enter Tryz.func85, Tryz.ntmps85
      go_wp2
      first | go_region_with (first | (go_at_call 117; refine (implTok _ _ z1).mono ?_; rw [ht]; rintro e w1 ⟨rfl, hb1⟩; have x1 := (hb1.cell (p := ⟨w.heap.size, 1, none⟩) bl).trans b1; have hb01 := hbb.trans ((show Below (w.alloc (.cells #[.string f.1, .string f.2] 83)).heap.size (w.alloc (.cells #[.string f.1, .string f.2] 83)) w1 from ⟨hb1.os, hb1.tape, hb1.output, hb1.size, hb1.block⟩).mono (Nat.le_of_lt bl)); have bl1 := Nat.lt_of_lt_of_le bl hb1.size) | (go_at_call 118; refine (implVis _ _ z2).mono ?_; rw [hv]; rintro e w2 ⟨rfl, hb2⟩; have x2 := (hb2.cell (p := ⟨w.heap.size, 1, none⟩) bl1).trans x1; have bl2 := Nat.lt_of_lt_of_le bl1 hb2.size; have hb02 := hb01.trans ((show Below w1.heap.size w1 w2 from ⟨hb2.os, hb2.tape, hb2.output, hb2.size, hb2.block⟩).mono hb01.size))) | fail
      all_goals
        go_wp2
        go_ret
        exact ⟨ret_bool HN.out, hb02⟩
    | true =>
      have HN : Hid (((trimB f.2).toList == f.2.toList) = fldOk f) := fldOk_same ht hv
      go_enter Tryz.func85, Tryz.ntmps85
      go_wp2
      first | go_region_with (first | (go_at_call 117; refine (implTok _ _ z1).mono ?_; rw [ht]; rintro e w1 ⟨rfl, hb1⟩; have x1 := (hb1.cell (p := ⟨w.heap.size, 1, none⟩) bl).trans b1; have hb01 := hbb.trans ((show Below (w.alloc (.cells #[.string f.1, .string f.2] 83)).heap.size (w.alloc (.cells #[.string f.1, .string f.2] 83)) w1 from ⟨hb1.os, hb1.tape, hb1.output, hb1.size, hb1.block⟩).mono (Nat.le_of_lt bl)); have bl1 := Nat.lt_of_lt_of_le bl hb1.size) | (go_at_call 118; refine (implVis _ _ z2).mono ?_; rw [hv]; rintro e w2 ⟨rfl, hb2⟩; have x2 := (hb2.cell (p := ⟨w.heap.size, 1, none⟩) bl1).trans x1; have bl2 := Nat.lt_of_lt_of_le bl1 hb2.size; have hb02 := hb01.trans ((show Below w1.heap.size w1 w2 from ⟨hb2.os, hb2.tape, hb2.output, hb2.size, hb2.block⟩).mono hb01.size)) | (go_at_call 119; refine (implTrim _ _ h2).mono ?_; rintro e w3 ⟨rfl, hb3⟩; have x3 := (hb3.cell (p := ⟨w.heap.size, 1, none⟩) bl2).trans x2; have hb03 := hb02.trans ((show Below w2.heap.size w2 w3 from ⟨hb3.os, hb3.tape, hb3.output, hb3.size, hb3.block⟩).mono hb02.size))) | fail
      all_goals
        go_wp2
        go_ret
        exact ⟨ret_bool HN.out, hb03⟩
end Go.Proofs.YtemmgfnepdgpbaaGreatDoor
namespace Go.Proofs.YtemmgfnepdgpbaaGreatDoor
open Go.RowKit Go.Sort

set_option maxHeartbeats 400000 in
theorem specOk (v : Value) (l : List Fl) (w : World) (h : Fls w v l) (hz : szL l ≤ 1048576) :
    Calls Tryz.prog 30 #[v] w fun e w' => e = .returned (.bool (fldsOk l)) ∧ Below w.heap.size w w' := by
  obtain ⟨a, cap, rfl, h1, h2, h3⟩ := h
  unfold maxLen at h2
  by_cases hbig : 30 < l.length
  · have HN : Hid (false = fldsOk l) := fldsOk_long hbig
    go_enter Tryz.func30, Tryz.ntmps30
    go_wp2
    go_ret
    exact ⟨ret_bool HN.out, Below.refl _ _⟩
  · have HF : Hid (∀ b, b = l.all fldOk → b = fldsOk l) := fun b => fldsOk_all (by omega) b
    go_enter Tryz.func30, Tryz.ntmps30
    go_wp2
    go_loopw [3] (fun i wr => ∃ (k : Nat), k ≤ l.length ∧ i = .int .i64 k ∧ Hid ((l.take k).all fldOk = true) ∧ Below w.heap.size w wr) (fun i _ => l.length - (intOf i).toNat)
    case atStart => exact ⟨0, Nat.zero_le _, rfl, rfl, Below.refl _ _⟩
    case round =>
      obtain ⟨k, hk, rfl, hall, hb⟩ := hrel
      by_cases hlt : k < l.length
      · obtain ⟨g, o, rfl, hg, hc⟩ := h3 (by omega)
        have c1 := (hb.cell (p := ⟨g, o + k * 2, none⟩) hg).trans (hc k hlt).1
        have c2 := (hb.cell (p := ⟨g, o + k * 2 + 1, none⟩) hg).trans (hc k hlt).2
        have hsz := szL_at hlt
        cases hf : fldOk l[k] with
        | false =>
          have HN : Hid (false = fldsOk l) := HF.out _ (all_no hlt hf)
          generalize l[k] = f at c1 c2 hsz hf
          clear hc h3
          go_wp2_with (go_at_call 66; refine (specFld f _ (by omega) (by omega)).mono ?_; rw [hf]; rintro e w1 ⟨rfl, hb1⟩)
          go_ret
          exact ⟨ret_bool HN.out, hb.trans (hb1.mono hb.size)⟩
        | true =>
          have HN : Hid ((l.take (k + 1)).all fldOk = true) := all_yes hlt hall.out hf
          generalize l[k] = f at c1 c2 hsz hf
          clear hc h3
          go_wp2_with (go_at_call 66; refine (specFld f _ (by omega) (by omega)).mono ?_; rw [hf]; rintro e w1 ⟨rfl, hb1⟩)
          go_roundw
          case rel => exact ⟨k + 1, by omega, by go_num, HN, hb.trans (hb1.mono hb.size)⟩
          case measure => simp [intOf]; omega
      · have HN : Hid (true = fldsOk l) := HF.out _ (all_end hlt hall.out)
        go_wp2
        go_ret
        exact ⟨ret_bool HN.out, hb⟩

set_option maxHeartbeats 400000 in
theorem implOk (v : Value) (l : List Fl) (w : World) (h : Fls w v l) (hz : szL l ≤ 1048576) :
    Calls Tryz.prog 59 #[v] w fun e w' => e = .returned (.bool (fldsOk l)) ∧ Below w.heap.size w w' := by
  obtain ⟨a, cap, rfl, h1, h2, h3⟩ := h
  unfold maxLen at h2
  by_cases hbig : 30 < l.length
  · have HN : Hid (false = fldsOk l) := fldsOk_long hbig
    go_enter Tryz.func59, Tryz.ntmps59
    go_wp2
    go_ret
    exact ⟨ret_bool HN.out, Below.refl _ _⟩
  · have HF : Hid (∀ b, b = l.all fldOk → b = fldsOk l) := fun b => fldsOk_all (by omega) b
    go_enter Tryz.func59, Tryz.ntmps59
    go_wp2
    go_loopw [10] (fun i wr => ∃ (k : Nat), k ≤ l.length ∧ i = .int .i64 k ∧ Hid ((l.take k).all fldOk = true) ∧ Below w.heap.size w wr) (fun i _ => l.length - (intOf i).toNat)
    case atStart => exact ⟨0, Nat.zero_le _, rfl, rfl, Below.refl _ _⟩
    case round =>
      obtain ⟨k, hk, rfl, hall, hb⟩ := hrel
      by_cases hlt : k < l.length
      · obtain ⟨g, o, rfl, hg, hc⟩ := h3 (by omega)
        have c1 := (hb.cell (p := ⟨g, o + k * 2, none⟩) hg).trans (hc k hlt).1
        have c2 := (hb.cell (p := ⟨g, o + k * 2 + 1, none⟩) hg).trans (hc k hlt).2
        have hsz := szL_at hlt
        cases hf : fldOk l[k] with
        | false =>
          have HN : Hid (false = fldsOk l) := HF.out _ (all_no hlt hf)
          generalize l[k] = f at c1 c2 hsz hf
          clear hc h3
          go_wp2_with (go_at_call 85; refine (implFld f _ (by omega) (by omega)).mono ?_; rw [hf]; rintro e w1 ⟨rfl, hb1⟩)
          go_ret
          exact ⟨ret_bool HN.out, (hb.alloc hb.size _).trans (hb1.mono (by have := hb.size; simp; omega))⟩
        | true =>
          have HN : Hid ((l.take (k + 1)).all fldOk = true) := all_yes hlt hall.out hf
          generalize l[k] = f at c1 c2 hsz hf
          clear hc h3
          go_wp2_with (go_at_call 85; refine (implFld f _ (by omega) (by omega)).mono ?_; rw [hf]; rintro e w1 ⟨rfl, hb1⟩)
          go_roundw
          case rel => exact ⟨k + 1, by omega, by go_num, HN, (hb.alloc hb.size _).trans (hb1.mono (by have := hb.size; simp; omega))⟩
          case measure => simp [intOf]; omega
      · have HN : Hid (true = fldsOk l) := HF.out _ (all_end hlt hall.out)
        go_wp2
        go_ret
        exact ⟨ret_bool HN.out, hb⟩
end Go.Proofs.YtemmgfnepdgpbaaGreatDoor
namespace Go.Proofs.YtemmgfnepdgpbaaGreatDoor
open Go.RowKit

theorem wpList_pushStr {ops : Array Oper} {rest : List Oper} {o : Oper} {a : Act} {Q : Exit → Act → World → Prop} (w : World) (hgd : o.guard = none) (s x : Operand)
    (ho : o.op = .call { callee := .builtin .append, args := #[s, x], argTypes := #[22, 9] }) (B : Nat) (v : Value) (l : List UInt8) (t : ByteArray) (hs : a.eval s = v) (hown : OwnsB w B v l)
    (hx : a.eval x = .string t) (hlen : l.length + t.size ≤ 1000000) (hB : B ≤ w.heap.size)
    (h : ∀ v' w', OwnsB w' B v' (l ++ t.data.toList) → w.grownBy w' v.ownBlock → wpList Tryz.prog ops Q rest (a.put o.dst v') w') :
    wpList Tryz.prog ops Q (o :: rest) a w := by
  obtain ⟨i0, hi, hz0, hz1, hz2⟩ := info_parts Tryz.info5
  refine Lib.wpList_append_own_string _ hgd s x 22 9 ho B 5 i0 Tryz.underlying22 Tryz.underlying9 hi hz0 hz1 hz2 v l.length (bytesV l) hs hown t hx (by unfold maxLen; omega) (by omega) hB ?_
  intro v' w' h1 h2 _
  refine h v' w' ?_ h2
  unfold OwnsB
  have e : bytesV (l ++ t.data.toList) = bytesV l ++ Lib.strCells t := by
    unfold bytesV Lib.strCells
    rw [List.map_append]
  rw [e, List.length_append, show t.data.toList.length = t.size from by simp]
  exact h1
/-- The same, as one step of a region that draws its order. -/
theorem step_ownStr {ops : Array Oper} {o : Oper} {a : Act} {w : World} {K : Act → World → Prop} {Q : Exit → Act → World → Prop} {E : Prop} (hg : o.guard = none) (s x : Operand)
    (ho : o.op = .call { callee := .builtin .append, args := #[s, x], argTypes := #[22, 9] }) (B : Nat) (v : Value) (l : List UInt8) (t : ByteArray) (hs : a.eval s = v) (hown : OwnsB w B v l)
    (hx : a.eval x = .string t) (hlen : l.length + t.size ≤ 1000000) (hB : B ≤ w.heap.size)
    (h : ∀ v' w', OwnsB w' B v' (l ++ t.data.toList) → w.grownBy w' v.ownBlock → K (a.put o.dst v') w') :
    if Region.wanted o (yielded ops a.tmps) = true then Oper.wp Tryz.prog o a w K Q else E := by
  have hw : Region.wanted o (yielded ops a.tmps) = true := by simp [Region.wanted, hg]
  rw [if_pos hw]
  obtain ⟨i0, hi, hz0, hz1, hz2⟩ := info_parts Tryz.info5
  obtain ⟨v', w', hr, h2, h3, h4⟩ := Lib.run_append_own_string (P := Tryz.prog) w B 22 9 o.type 5 i0 Tryz.underlying22 Tryz.underlying9 hi hz0 hz1 hz2 v l.length (bytesV l) hown t (by unfold maxLen; omega) (by omega) hB
  unfold Oper.wp execOp
  simp only [ho, resolve, invoke, builtin, Sem.run_bind, Sem.run_pure, Result.andThen_ok, List.map_toArray, List.map_cons, List.map_nil, hs, hx, hr]
  refine h v' w' ?_ h3
  unfold OwnsB
  have e : bytesV (l ++ t.data.toList) = bytesV l ++ Lib.strCells t := by
    unfold bytesV Lib.strCells
    rw [List.map_append]
  rw [e, List.length_append, show t.data.toList.length = t.size from by simp]
  exact h2
theorem grown_cell {w w' : World} {r : Option Nat} {b j : Nat} {v : Value} (h : w.grownBy w' r) (hc : w.cell? ⟨b, j, none⟩ = some v) (hb : b < w.heap.size) (hne : ∀ k, r = some k → k ≠ b) : w'.cell? ⟨b, j, none⟩ = some v := by
  rw [← hc]
  simp only [World.cell?]
  rw [h.block b hb (fun e => hne b e.symm rfl)]
theorem OwnsB.under {w : World} {B : Nat} {v : Value} {l : List UInt8} (h : OwnsB w B v l) : ∀ k, v.ownBlock = some k → k < w.heap.size := fun k hk => (World.ownsRow.lt h k hk).2
end Go.Proofs.YtemmgfnepdgpbaaGreatDoor
