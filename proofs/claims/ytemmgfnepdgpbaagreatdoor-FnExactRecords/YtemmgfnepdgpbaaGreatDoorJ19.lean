/-
  The program's reading of one record, by its contract.
  The program's beginsWith, by its contract.
  The program's readRecord, by its contract.
-/
import Derived.Test.YtemmgfnepdgpbaaGreatDoorJ14
import Derived.Test.YtemmgfnepdgpbaaGreatDoorJ18
import Derived.Test.YtemmgfnepdgpbaaGreatDoorShelfP
import Derived.Test.YtemmgfnepdgpbaaGreatDoorJ10
import Derived.WalkKit
import Derived.WalkSpells
import Derived.Below
import Derived.Handy
import Derived.BigQuiet
namespace Go.Proofs.YtemmgfnepdgpbaaGreatDoor
open Go.RowKit Go.Sort St
set_option linter.unusedVariables false
set_option linter.unusedSimpArgs false

/-! ### What is guessed of a record -/
theorem recG_is {d x r y : List UInt8} {n0 : Nat} {b1 : Int} (h1 : rowX d = (x, r)) (ha : numsX 2 (txtL x) = [(n0 : Int), b1]) (hy : n0 ≤ r.length → y = r.take n0) : ∀ s : List UInt8, s.length ≤ 9000 → recL s <+: d → y = s := by
  rintro s hs ⟨z, hz⟩
  have nd : ∀ n : Int, (10 : UInt8) ∉ dd n := fun n => dd_not n (by decide)
  have e1 : d = (dd (s.length : Int) ++ 32 :: dd (St.hs s)) ++ 10 :: (s ++ 10 :: z) := by rw [← hz]; unfold recL; simp
  have l1 := rowX_of (ln10_at (x := dd (s.length : Int) ++ 32 :: dd (St.hs s)) (s ++ 10 :: z) (by simp [nd]))
  rw [← e1, h1, Prod.mk.injEq] at l1
  obtain ⟨rfl, rfl⟩ := l1
  rw [numsX_is (by decide) (nums_2 ⟨by omega, by omega⟩ (hs_few s))] at ha
  simp only [List.cons.injEq, and_true] at ha
  obtain ⟨h2, _⟩ := ha
  have h3 : n0 = s.length := by omega
  subst h3
  rw [hy (by simp)]
  simp
theorem lastR_is {d y : List UInt8} (h : ∀ s : List UInt8, s.length ≤ 9000 → recL s <+: d → y = s) : (if y.length ≤ 9000 ∧ recL y <+: d then some y else none) = rdR d := by
  cases e : rdR d with
  | some s =>
    obtain ⟨h1, h2⟩ := rdR_iff.1 e
    obtain rfl := h s h1 h2
    rw [if_pos ⟨h1, h2⟩]
  | none =>
    split
    · rename_i hh
      rw [rdR_iff.2 hh] at e
      cases e
    · rfl
theorem row_atY {t : ByteArray} {D X R : List UInt8} (hd : t.data.toList = D) (he : rowX D = (X, R)) : t.data.toList.drop (t.size - R.length) = R ∧ R.length ≤ t.size := by
  have h := rowX_tail D
  have h2 := rowX_len D
  have hl : D.length = t.size := by rw [← hd]; simp
  rw [he] at h h2
  simp only at h h2
  rw [hl] at h h2
  exact ⟨by rw [hd]; exact h, h2.2⟩
theorem nums2Y {ns : List Int} (h : ns.length = 2) : ∃ a b, ns = [a, b] := by
  match ns, h with
  | [a, b], _ => exact ⟨a, b, rfl⟩
set_option maxHeartbeats 2000000 in
theorem implRecT (b : Nat) (t : ByteArray) (m : Int) (w : World) (h : Sdr w b t 0) (ht : t.size ≤ 1048576) (hm : w.cell? ⟨3, 0, none⟩ = some (.int .i64 m)) (hmb : 3 ≠ b) :
    Calls Tryz.prog 111 #[.pointer (some ⟨b, 0, none⟩)] w fun e w' => ∃ Y : List UInt8, e = .returned (.string (txtL Y)) ∧ (∀ s : List UInt8, s.length ≤ 9000 → recL s <+: t.data.toList → Y = s) ∧ Y.length ≤ t.size ∧ w.grownBy w' (some b) := by
  have hbw : b < w.heap.size := h.hi
  obtain ⟨⟨X, R⟩, e1⟩ : ∃ p, rowX t.data.toList = p := ⟨_, rfl⟩
  obtain ⟨hd, hR⟩ := row_atY rfl e1
  have c1 := implNumsS 2 (by decide) (by decide) b t 0 m w h (Nat.zero_le _) ht hm hmb
  rw [List.drop_zero, e1] at c1
  obtain ⟨a0, a1, hA⟩ := nums2Y (numsX_len 2 (txtL X) (by decide))
  have f0 : few a0 := numsX_few 2 (txtL X) a0 (by rw [hA]; simp)
  obtain ⟨n0, rfl⟩ := Int.eq_ofNat_of_zero_le f0.1
  have HIS : Hid (∀ Y : List UInt8, (n0 ≤ R.length → Y = R.take n0) → ∀ s : List UInt8, s.length ≤ 9000 → recL s <+: t.data.toList → Y = s) := (show ∀ _, _ from fun Y hY => recG_is e1 hA hY)
  simp only at c1
  rw [hA] at c1
  have hk : t.size - R.length ≤ t.size := Nat.sub_le _ _
  have hRl : R.length = t.size - (t.size - R.length) := by omega
  generalize t.size - R.length = k at c1 hd hk hRl
  clear h e1 hA f0
  go_enter Tryz.func111, Tryz.ntmps111
  go_wp2_with fail
  refine c1.mono ?_
  rintro e w1 ⟨rfl, o1, S1, g1⟩
  have x0 := ownsNu_at o1 0 (by simp)
  simp only [List.getElem_cons_zero] at x0
  clear o1 c1
  by_cases hn : n0 ≤ t.size - k
  · go_wp2_with fail
    refine (implPcS_yes b t k n0 w1 S1 hk ht hn).mono ?_
    rintro e w2 ⟨rfl, _, g2⟩
    rw [hd]
    go_wp2
    go_ret
    exact ⟨R.take n0, rfl, HIS.out _ (fun _ => rfl), by rw [List.length_take]; omega, g1.trans g2⟩
  · go_wp2_with fail
    refine (implPcS_no b t k n0 w1 S1 hk ht hn).mono ?_
    rintro e w2 ⟨rfl, hb⟩
    go_wp2
    go_ret
    exact ⟨[], rfl, HIS.out _ (fun h => by omega), by simp, grown_belowS g1 hb⟩
end Go.Proofs.YtemmgfnepdgpbaaGreatDoor
namespace Go.Proofs.YtemmgfnepdgpbaaGreatDoor
open Go.RowKit St
set_option linter.unusedVariables false
set_option linter.unusedSimpArgs false

theorem hasPre (t s : ByteArray) : Lib.hasPrefix t.data.toList s.data.toList = true ↔ s.data.toList <+: t.data.toList := by
  rw [← Lib.hasPrefix_of_take, Bool.and_eq_true, decide_eq_true_eq, beq_iff_eq, List.prefix_iff_eq_take]
  constructor
  · rintro ⟨_, h⟩; exact h.symm
  · intro h
    refine ⟨?_, h.symm⟩
    have := congrArg List.length h
    rw [List.length_take] at this
    omega
theorem void_eqS {s : ByteArray} : (s.toList == []) = decide (s.size = 0) := by
  have hlen : s.data.toList.length = s.size := by simp
  rw [ByteArray.toList_eq, ← hlen]
  cases s.data.toList <;> simp
theorem implBw (t s : ByteArray) (w : World) :
    Calls Tryz.prog 36 #[.string t, .string s] w fun e w' => e = .returned (.bool (decide (0 < s.size ∧ s.data.toList <+: t.data.toList))) ∧ w = w' := by
  have hp := hasPre t s
  have hv := void_eqS (s := s)
  have j1 := fun W => Tryz.strings_HasPrefix t s W
  by_cases h0 : s.size = 0
  · have HR : Hid (decide (0 < s.size ∧ s.data.toList <+: t.data.toList) = false) := (show _ = _ from decide_eq_false (fun h => by omega))
    rw [decide_eq_true h0] at hv
    have hv2 : (s.toList != []) = false := by simp [bne, hv]
    clear h0 hp
    go_enter Tryz.func36, Tryz.ntmps36
    go_wp2
    go_ret
    exact ⟨by rw [HR.out]; rfl, rfl⟩
  · have HR : Hid (decide (0 < s.size ∧ s.data.toList <+: t.data.toList) = Lib.hasPrefix t.data.toList s.data.toList) := (show _ = _ by
      cases e : Lib.hasPrefix t.data.toList s.data.toList with
      | true => exact decide_eq_true ⟨by omega, hp.1 e⟩
      | false => exact decide_eq_false (fun h => by rw [hp.2 h.2] at e; cases e))
    rw [decide_eq_false h0] at hv
    have hv2 : (s.toList != []) = true := by simp [bne, hv]
    generalize Lib.hasPrefix t.data.toList s.data.toList = q at j1 HR
    clear h0 hp
    go_enter Tryz.func36, Tryz.ntmps36
    go_wp2_with (go_at_call 73; refine (j1 _).mono ?_; rintro e w' ⟨rfl, hw⟩; rw [hw])
    go_ret
    exact ⟨by rw [HR.out]; rfl, rfl⟩
end Go.Proofs.YtemmgfnepdgpbaaGreatDoor
namespace Go.Proofs.YtemmgfnepdgpbaaGreatDoor
open Go.RowKit Go.Sort St
set_option linter.unusedVariables false
set_option linter.unusedSimpArgs false

/-- What the walks of Records ask of the world: the cell of MaxLen, the table of powers, the error that tells of no record, the type that errors.As asks for. -/
structure XsR (w : World) : Prop where
  ml : ∃ m : Int, w.cell? ⟨3, 0, none⟩ = some (.int .i64 m)
  tb : TabS w
  no : ∃ a : Addr, w.cell? ⟨0, 0, none⟩ = some (.iface 216 (.pointer (some a)))
  ty : w.cell? ⟨1, 0, none⟩ = some (.iface 158 (.agg #[.pointer (some ⟨8, 74, none⟩)]))
theorem XsR.low {w w' : World} (h : XsR w) (hb : Below w.heap.size w w') : XsR w' := by
  obtain ⟨⟨m, hm⟩, ht, ⟨a, ha⟩, hg⟩ := h
  exact ⟨⟨m, (hb.cell (p := ⟨3, 0, none⟩) (cell_ltS hm)).trans hm⟩, ht.low hb, ⟨a, (hb.cell (p := ⟨0, 0, none⟩) (cell_ltS ha)).trans ha⟩, (hb.cell (p := ⟨1, 0, none⟩) (cell_ltS hg)).trans hg⟩
/-- What readRecord answers. -/
def RdQ (d : ByteArray) (e : Ending) : Prop := match rdR d.data.toList with
  | some x => e = .returned (.tuple #[.string (txtL x), .int .i64 ((recL x).length : Nat), .nilIface])
  | none => ∃ a : Addr, e = .returned (.tuple #[.string ⟨#[]⟩, .int .i64 0, .iface 216 (.pointer (some a))])
theorem rdQ_yes {d : ByteArray} {Y : List UInt8} {n : Nat} (h : rdR d.data.toList = some Y) (hn : n = (recL Y).length) : RdQ d (.returned (.tuple #[.string (txtL Y), .int .i64 n, .nilIface])) := by
  unfold RdQ
  rw [h, hn]
theorem rdQ_no {d : ByteArray} (h : rdR d.data.toList = none) (a : Addr) : RdQ d (.returned (.tuple #[.string ⟨#[]⟩, .int .i64 0, .iface 216 (.pointer (some a))])) := by
  unfold RdQ
  rw [h]
  exact ⟨a, rfl⟩
theorem rcd_size {y : List UInt8} (h : y.length ≤ 9000) : (rcdA (txtL y)).size = (recL y).length ∧ (rcdA (txtL y)).data.toList = recL y := by
  unfold rcdA
  rw [if_pos (by rw [txt_len]; exact h)]
  exact ⟨txt_len _, rfl⟩
theorem rec_pos (y : List UInt8) : 0 < (recL y).length := by have := rec_len y; omega
set_option maxRecDepth 100000 in
set_option maxHeartbeats 4000000 in
theorem implRdR (d : ByteArray) (w : World) (hx : XsR w) (hs : d.size ≤ 1048576) :
    Calls Tryz.prog 83 #[.string d] w fun e w' => RdQ d e ∧ Below w.heap.size w w' := by
  obtain ⟨⟨m, hm⟩, hT, ⟨a, ha⟩, _⟩ := hx
  have hgm := cell_ltS hm
  have hge := cell_ltS ha
  have HT : Hid (TabS w) := hT
  have hrt := fun W hS hM hne => implRecT w.heap.size d m W hS hs hM hne
  clear hT
  go_enter Tryz.func83, Tryz.ntmps83
  go_wp2_with fail
  refine (implNewS d w).mono ?_
  rintro e w1 ⟨rfl, hw1⟩
  have b1 : Below w.heap.size w w1 := by rw [hw1]; exact (Below.refl _ w).alloc (Nat.le_refl _) _
  have S1 : Sdr w1 w.heap.size d 0 := by rw [hw1]; exact Sdr.new w d
  have m1 := (b1.cell (p := ⟨3, 0, none⟩) hgm).trans hm
  clear hw1
  go_wp2_with fail
  refine (hrt w1 S1 m1 (by have h2 : 3 < w.heap.size := hgm; omega)).mono ?_
  rintro e w2 ⟨Y, rfl, hY, lY, g2⟩
  have HLA : Hid ((if Y.length ≤ 9000 ∧ recL Y <+: d.data.toList then some Y else none) = rdR d.data.toList) := lastR_is hY
  have B2 : Below w.heap.size w w2 := b1.grown g2 b1.size (fun j hj => by injection hj with hj; omega)
  have hrc := implRec (txtL Y) w2 (by rw [txt_len]; omega) (HT.out.low B2)
  clear S1 m1 b1 g2 hY hrt HT
  go_wp2_with fail
  refine hrc.mono ?_
  rintro e w3 ⟨rfl, hb3⟩
  have B3 : Below w.heap.size w w3 := past6S B2 hb3
  have a3 := (B3.cell (p := ⟨0, 0, none⟩) hge).trans ha
  have hbw := fun W => implBw d (rcdA (txtL Y)) W
  have HB3 : Hid (Below w.heap.size w w3) := B3
  clear hrc hb3 B2 B3
  by_cases hc : Y.length ≤ 9000 ∧ recL Y <+: d.data.toList
  · obtain ⟨z1, z2⟩ := rcd_size hc.1
    have hd : decide (0 < (rcdA (txtL Y)).size ∧ (rcdA (txtL Y)).data.toList <+: d.data.toList) = true := decide_eq_true (by rw [z1, z2]; exact ⟨rec_pos Y, hc.2⟩)
    have HRO : Hid (rdR d.data.toList = some Y) := (show _ = _ by have := HLA.out; rw [if_pos hc] at this; exact this.symm)
    have HSZ : Hid ((rcdA (txtL Y)).size = (recL Y).length) := z1
    rw [hd] at hbw
    clear hd hc HLA z1 z2
    generalize rcdA (txtL Y) = S at hbw HSZ ⊢
    go_wp2_with fail
    refine (hbw _).mono ?_
    rintro e w5 ⟨rfl, rfl⟩
    go_wp2
    go_ret3
    exact ⟨rdQ_yes HRO.out HSZ.out, HB3.out⟩
  · have hd : decide (0 < (rcdA (txtL Y)).size ∧ (rcdA (txtL Y)).data.toList <+: d.data.toList) = false := decide_eq_false (fun h => by
      unfold rcdA at h
      split at h
      · rename_i hB
        rw [txt_len] at hB
        exact hc ⟨hB, h.2⟩
      · exact absurd h.1 (by decide))
    have HRO : Hid (rdR d.data.toList = none) := (show _ = _ by have := HLA.out; rw [if_neg hc] at this; exact this.symm)
    rw [hd] at hbw
    clear hd hc HLA
    generalize rcdA (txtL Y) = S at hbw ⊢
    go_wp2_with fail
    refine (hbw _).mono ?_
    rintro e w5 ⟨rfl, rfl⟩
    go_wp2_with fail
    go_quiet (fail)
    go_wp2
    go_ret3
    exact ⟨rdQ_no HRO.out a, past6S HB3.out (drewN_belowS w3 _)⟩
end Go.Proofs.YtemmgfnepdgpbaaGreatDoor
