/-
  The program's ReadObject, by its contract.
  What the listed table of powers of ten gives to the walks of the store.
  What the listed variables give to the walk of FnExactReadObject.
-/
import Derived.Test.YtemmgfnepdgpbaaGreatDoorG31
import Derived.Test.YtemmgfnepdgpbaaGreatDoorG33
import Derived.Test.YtemmgfnepdgpbaaGreatDoorShelfP
import Derived.Test.YtemmgfnepdgpbaaGreatDoorG35
import Derived.ProofKit
import Derived.Lib.LaidU8
import Derived.MakeChecks
namespace Go.Proofs.YtemmgfnepdgpbaaGreatDoor
open Go.RowKit Go.Sort St
set_option linter.unusedVariables false
set_option linter.unusedSimpArgs false

theorem HasF.solidS {w : World} {B : Nat} {v : Value} {l : List Fl} (h : HasF w B v l) : Solid v := by
  rcases h with ⟨rfl, _⟩ | ⟨g, cap, cur, rfl, _⟩
  · intro n c e; injection e with _ _ e; exact e.symm
  · intro n c e; injection e with e _ _; cases e
theorem HasF.fitsS {w : World} {B : Nat} {v : Value} {l : List Fl} (h : HasF w B v l) (h1 : szL l ≤ 1048576) (h2 : l.length ≤ 1048576) : Fits w v l := ⟨h.fls, h1, h2, h.solidS⟩
theorem hasPre (t s : ByteArray) : Lib.hasPrefix t.data.toList s.data.toList = true ↔ s.data.toList <+: t.data.toList := by
  rw [← Lib.hasPrefix_of_take, Bool.and_eq_true, decide_eq_true_eq, beq_iff_eq, List.prefix_iff_eq_take]
  constructor
  · rintro ⟨_, h⟩; exact h.symm
  · intro h
    refine ⟨?_, h.symm⟩
    have := congrArg List.length h
    rw [List.length_take] at this
    omega
theorem void_eqS {s : ByteArray} : (s.toList == []) = decide (s.size = 0) := by
  have hlen : s.data.toList.length = s.size := by simp
  rw [ByteArray.toList_eq, ← hlen]
  cases s.data.toList <;> simp
theorem implBw (t s : ByteArray) (w : World) :
    Calls Tryz.prog 36 #[.string t, .string s] w fun e w' => e = .returned (.bool (decide (0 < s.size ∧ s.data.toList <+: t.data.toList))) ∧ w = w' := by
  have hp := hasPre t s
  have hv := void_eqS (s := s)
  have j1 := fun W => Tryz.strings_HasPrefix t s W
  by_cases h0 : s.size = 0
  · have HR : Hid (decide (0 < s.size ∧ s.data.toList <+: t.data.toList) = false) := (show _ = _ from decide_eq_false (fun h => by omega))
    rw [decide_eq_true h0] at hv
    have hv2 : (s.toList != []) = false := by simp [bne, hv]
    clear h0 hp
    go_enter Tryz.func36, Tryz.ntmps36
    go_wp2
    go_ret
    exact ⟨by rw [HR.out]; rfl, rfl⟩
  · have HR : Hid (decide (0 < s.size ∧ s.data.toList <+: t.data.toList) = Lib.hasPrefix t.data.toList s.data.toList) := (show _ = _ by
      cases e : Lib.hasPrefix t.data.toList s.data.toList with
      | true => exact decide_eq_true ⟨by omega, hp.1 e⟩
      | false => exact decide_eq_false (fun h => by rw [hp.2 h.2] at e; cases e))
    rw [decide_eq_false h0] at hv
    have hv2 : (s.toList != []) = true := by simp [bne, hv]
    generalize Lib.hasPrefix t.data.toList s.data.toList = q at j1 HR
    clear h0 hp
    go_enter Tryz.func36, Tryz.ntmps36
    go_wp2_with (go_at_call 73; refine (j1 _).mono ?_; rintro e w' ⟨rfl, hw⟩; rw [hw])
    go_ret
    exact ⟨by rw [HR.out]; rfl, rfl⟩
/-- What the walks ask of the world: the cell of MaxLen holds a number, the table of powers lies as it was laid. -/
def XsW (w : World) : Prop := (∃ m : Int, w.cell? ⟨3, 0, none⟩ = some (.int .i64 m)) ∧ TabS w
theorem XsW.low {w w' : World} (h : XsW w) (hb : Below w.heap.size w w') : XsW w' := by
  obtain ⟨⟨m, hm⟩, ht⟩ := h
  exact ⟨⟨m, (hb.cell (p := ⟨3, 0, none⟩) (cell_lt hm)).trans hm⟩, ht.low hb⟩
theorem HasF.none (w : World) (B : Nat) : HasF w B (.slice Option.none 0 0) [] := .inl ⟨rfl, rfl⟩
set_option maxRecDepth 100000 in
set_option maxHeartbeats 8000000 in
theorem implRdO (t : ByteArray) (w : World) (hx : XsW w) (ht : t.size ≤ 1048576) :
    Calls Tryz.prog 11 #[.string t] w fun e w' => ∃ p u, e = .returned (.tuple #[obV (rO (rdO t.data.toList)) p u, .int .i64 (rN (rdO t.data.toList)), .bool (rdO t.data.toList).isSome]) ∧ HasF w' w.heap.size p (rO (rdO t.data.toList)).l ∧ HasF w' w.heap.size u (rO (rdO t.data.toList)).r.l ∧ (∀ g, p.ownBlock = some g → u.ownBlock ≠ some g) ∧ Below w.heap.size w w' := by
  obtain ⟨R, hR⟩ : ∃ R, rdO t.data.toList = R := ⟨_, rfl⟩
  have HR0 : Hid (rdO t.data.toList = R) := hR
  rw [hR]
  clear hR
  have hx0 := hx
  obtain ⟨⟨m, hm⟩, hT⟩ := hx
  have HT : Hid (TabS w) := hT
  have ZX0 : Hid (ObB (w.alloc (.cells #[.string ⟨#[]⟩, .slice none 0 0, .int .i64 0, .slice none 0 0, .string ⟨#[]⟩, .int .i64 0, .int .i64 0, .int .i64 0] 28)) w.heap.size noO (.slice none 0 0) (.slice none 0 0)) := (show ObB _ _ _ _ _ from ObB.new w noO (.slice none 0 0) (.slice none 0 0) 28)
  have bA := (Below.refl w.heap.size w).alloc (Nat.le_refl _) (.cells #[.string ⟨#[]⟩, .slice none 0 0, .int .i64 0, .slice none 0 0, .string ⟨#[]⟩, .int .i64 0, .int .i64 0, .int .i64 0] 28)
  have BA : Hid (Below w.heap.size w (w.alloc (.cells #[.string ⟨#[]⟩, .slice none 0 0, .int .i64 0, .slice none 0 0, .string ⟨#[]⟩, .int .i64 0, .int .i64 0, .int .i64 0] 28))) := bA
  have hmA := (bA.cell (p := ⟨3, 0, none⟩) (cell_lt hm)).trans hm
  have hgm := cell_lt hm
  have hob := fun B W hS hM hne => implObjS B t m W hS ht hM hne
  have hsh := fun o p u W hI hTT => implShO o p u W hI hTT
  unfold obV at hob hsh
  clear hx0 hT hm bA
  go_enter Tryz.func11, Tryz.ntmps11
  generalize hwA : w.alloc (.cells #[.string ⟨#[]⟩, .slice none 0 0, .int .i64 0, .slice none 0 0, .string ⟨#[]⟩, .int .i64 0, .int .i64 0, .int .i64 0] 28) = wA at ZX0 BA hmA
  have hBs : wA.heap.size = w.heap.size + 1 := by rw [← hwA]; simp
  go_wp2_with fail
  refine (implNewS t wA).mono ?_
  rintro e w1 ⟨rfl, hw1⟩
  have b1 : Below wA.heap.size wA w1 := by rw [hw1]; exact (Below.refl _ wA).alloc (Nat.le_refl _) _
  have S1 : Sdr w1 wA.heap.size t 0 := by rw [hw1]; exact Sdr.new wA t
  have m1 := (b1.cell (p := ⟨3, 0, none⟩) (cell_lt hmA)).trans hmA
  have Z1 : Hid (ObB w1 w.heap.size noO (.slice none 0 0) (.slice none 0 0)) := ZX0.out.next b1
  have B1 : Hid (Below w.heap.size w w1) := (show Below _ _ _ from BA.out.trans (b1.mono BA.out.size))
  clear hw1 b1 ZX0 BA hmA hwA
  rw [hBs] at S1
  go_wp2_with fail
  have hnb : 3 ≠ w.heap.size + 1 := by have hgm2 : 3 < w.heap.size := hgm; omega
  have hob1 := hob _ w1 S1 m1 hnb
  clear hob
  refine hob1.mono ?_
  rintro e w2 ⟨o, p, u, rfl, hO⟩
  obtain ⟨pa, pc, hpv, _⟩ := hO.hp.form
  subst hpv
  obtain ⟨ua, uc, huv, _⟩ := hO.hu.form
  subst huv
  have b2 : Below w.heap.size w w2 := B1.out.grown hO.gr B1.out.size (fun j hj => by injection hj with hj; omega)
  have hz1 : w.heap.size < w1.heap.size := Z1.out.hi
  have Z2 : Hid (ObB w2 w.heap.size noO (.slice none 0 0) (.slice none 0 0)) := Z1.out.by hO.gr (by omega)
  have I2 : ObIn w2 (.slice pa o.l.length pc) (.slice ua o.r.l.length uc) o := ⟨hO.hp.fitsS (by have := hO.z1; omega) (by have := hO.n1; omega), ⟨hO.hu.fitsS (by have := hO.z2; omega) (by have := hO.n2; omega), by have := hO.bz; omega⟩, by have := hO.kz; omega⟩
  have hba := (Below.refl w2.heap.size w2).alloc (Nat.le_refl _) (.cells #[.string o.k, .slice pa o.l.length pc, .int .i64 o.r.s, .slice ua o.r.l.length uc, .string o.r.b, .int .i64 o.asked, .int .i64 o.got, .int .i64 o.ep] 28)
  have O3 : Hid (ObB (w2.alloc (.cells #[.string o.k, .slice pa o.l.length pc, .int .i64 o.r.s, .slice ua o.r.l.length uc, .string o.r.b, .int .i64 o.asked, .int .i64 o.got, .int .i64 o.ep] 28)) w2.heap.size o (.slice pa o.l.length pc) (.slice ua o.r.l.length uc)) := (show ObB _ _ _ _ _ from ObB.new w2 o _ _ 28)
  have B3 : Hid (Below w.heap.size w (w2.alloc (.cells #[.string o.k, .slice pa o.l.length pc, .int .i64 o.r.s, .slice ua o.r.l.length uc, .string o.r.b, .int .i64 o.asked, .int .i64 o.got, .int .i64 o.ep] 28))) := b2.alloc b2.size _
  have Z3 : Hid (ObB (w2.alloc (.cells #[.string o.k, .slice pa o.l.length pc, .int .i64 o.r.s, .slice ua o.r.l.length uc, .string o.r.b, .int .i64 o.asked, .int .i64 o.got, .int .i64 o.ep] 28)) w.heap.size noO (.slice none 0 0) (.slice none 0 0)) := Z2.out.next hba
  have HP3 : Hid (HasF (w2.alloc (.cells #[.string o.k, .slice pa o.l.length pc, .int .i64 o.r.s, .slice ua o.r.l.length uc, .string o.r.b, .int .i64 o.asked, .int .i64 o.got, .int .i64 o.ep] 28)) w1.heap.size (.slice pa o.l.length pc) o.l) := hO.hp.kept hba
  have HU3 : Hid (HasF (w2.alloc (.cells #[.string o.k, .slice pa o.l.length pc, .int .i64 o.r.s, .slice ua o.r.l.length uc, .string o.r.b, .int .i64 o.asked, .int .i64 o.got, .int .i64 o.ep] 28)) w1.heap.size (.slice ua o.r.l.length uc) o.r.l) := hO.hu.kept hba
  have I3 : Hid (ObIn (w2.alloc (.cells #[.string o.k, .slice pa o.l.length pc, .int .i64 o.r.s, .slice ua o.r.l.length uc, .string o.r.b, .int .i64 o.asked, .int .i64 o.got, .int .i64 o.ep] 28)) (.slice pa o.l.length pc) (.slice ua o.r.l.length uc) o) := I2.kept hba
  have HNE : Hid (∀ g, (Value.slice pa o.l.length pc).ownBlock = some g → (Value.slice ua o.r.l.length uc).ownBlock ≠ some g) := hO.ne
  have HLA : Hid (lastO t.data.toList o = R) := (last_is hO.is).trans HR0.out
  have T3 := HT.out.low B3.out
  have hsh1 := hsh o (.slice pa o.l.length pc) (.slice ua o.r.l.length uc) _ I3.out T3
  clear Z1 B1 S1 m1 b2 Z2 I2 hba hO hob1 HT hsh
  go_wp2_with fail
  refine hsh1.mono ?_
  rintro e w4 ⟨rfl, hb4⟩
  have hb4' : Below (w2.alloc (.cells #[.string o.k, .slice pa o.l.length pc, .int .i64 o.r.s, .slice ua o.r.l.length uc, .string o.r.b, .int .i64 o.asked, .int .i64 o.got, .int .i64 o.ep] 28)).heap.size _ w4 := hb4
  have O4 : Hid (ObB w4 w2.heap.size o (.slice pa o.l.length pc) (.slice ua o.r.l.length uc)) := O3.out.next hb4
  have Z4 : Hid (ObB w4 w.heap.size noO (.slice none 0 0) (.slice none 0 0)) := Z3.out.next hb4
  have B4 : Hid (Below w.heap.size w w4) := (show Below _ _ _ from B3.out.trans (hb4.mono B3.out.size))
  have HP4 : Hid (HasF w4 w1.heap.size (.slice pa o.l.length pc) o.l) := HP3.out.kept hb4
  have HU4 : Hid (HasF w4 w1.heap.size (.slice ua o.r.l.length uc) o.r.l) := HU3.out.kept hb4
  clear O3 Z3 B3 HP3 HU3 I3 hb4 hb4' hsh1 T3
  have hbw := fun W => implBw t (shwO o) W
  by_cases hc : obB o = true ∧ shoL o <+: t.data.toList
  · have hS : shwO o = txtL (shoL o) := by unfold shwO; rw [if_pos hc.1]
    have hd : decide (0 < (shwO o).size ∧ (shwO o).data.toList <+: t.data.toList) = true := decide_eq_true (by rw [hS, txt_sizG, txt_lstG]; exact ⟨sho_pos, hc.2⟩)
    have HSZ : Hid ((shwO o).size = (shoL o).length) := (show _ = _ by rw [hS, txt_sizG])
    have HRO : Hid (R = some o) := (show _ = _ by have := HLA.out; unfold lastO at this; rw [if_pos hc] at this; exact this.symm)
    rw [hd] at hbw
    clear hS hd hc HLA
    generalize shwO o = S at hbw HSZ ⊢
    go_wp2_with fail
    refine (hbw _).mono ?_
    rintro e w5 ⟨rfl, rfl⟩
    have HPT : Hid (ObB (putL w4 w.heap.size (obL o (.slice pa o.l.length pc) (.slice ua o.r.l.length uc)) 0) w.heap.size o (.slice pa o.l.length pc) (.slice ua o.r.l.length uc)) := Z4.out.puts _ _ _
    have hgp := grown_putL (grown_selfS w4 (some w.heap.size)) (obL o (.slice pa o.l.length pc) (.slice ua o.r.l.length uc)) 0
    have HP5 : Hid (HasF (putL w4 w.heap.size (obL o (.slice pa o.l.length pc) (.slice ua o.r.l.length uc)) 0) w.heap.size (.slice pa o.l.length pc) o.l) := (HP4.out.by hgp hz1).low (by omega)
    have HU5 : Hid (HasF (putL w4 w.heap.size (obL o (.slice pa o.l.length pc) (.slice ua o.r.l.length uc)) 0) w.heap.size (.slice ua o.r.l.length uc) o.r.l) := (HU4.out.by hgp hz1).low (by omega)
    have BP : Hid (Below w.heap.size w (putL w4 w.heap.size (obL o (.slice pa o.l.length pc) (.slice ua o.r.l.length uc)) 0)) := putL_below (Nat.le_refl _) _ 0 B4.out
    obtain ⟨o0, o1, o2, o3, o4, o5, o6, o7, of, oh⟩ := O4.out
    obtain ⟨z0, z1, z2, z3, z4, z5, z6, z7, zf, zh⟩ := Z4.out
    simp only [noO, noS] at z0 z1 z2 z3 z4 z5 z6 z7
    clear hgp O4 Z4 B4 HP4 HU4 hbw
    go_wp2
    obtain ⟨p0, p1, p2, p3, p4, p5, p6, p7, pf, ph⟩ := HPT.out
    have bp := BP.out
    have vp := HP5.out
    have up := HU5.out
    simp only [obL, putL, Nat.zero_add, Nat.reduceAdd] at p0 p1 p2 p3 p4 p5 p6 p7 bp vp up
    refine bodyPost_ret (v := .tuple #[obV o (.slice pa o.l.length pc) (.slice ua o.r.l.length uc), .int .i64 (S.size : Int), .bool true]) (by unfold obV; simp [results, Tryz.results11, go_sem, p0, p1, p2, p3, p4, p5, p6, p7]) rfl ⟨.slice pa o.l.length pc, .slice ua o.r.l.length uc, by rw [HRO.out, HSZ.out]; rfl, by rw [HRO.out]; exact vp, by rw [HRO.out]; exact up, HNE.out, bp⟩
  · have hd : decide (0 < (shwO o).size ∧ (shwO o).data.toList <+: t.data.toList) = false := decide_eq_false (fun h => by
      unfold shwO at h
      split at h
      · rename_i hB
        rw [txt_lstG] at h
        exact hc ⟨hB, h.2⟩
      · exact absurd h.1 (by decide))
    have HRO : Hid (R = none) := (show _ = _ by have := HLA.out; unfold lastO at this; rw [if_neg hc] at this; exact this.symm)
    rw [hd] at hbw
    clear hd hc HLA
    generalize shwO o = S at hbw ⊢
    go_wp2_with fail
    refine (hbw _).mono ?_
    rintro e w5 ⟨rfl, rfl⟩
    have HPT : Hid (ObB (putL w4 w.heap.size (obL noO (.slice none 0 0) (.slice none 0 0)) 0) w.heap.size noO (.slice none 0 0) (.slice none 0 0)) := Z4.out.puts noO (.slice none 0 0) (.slice none 0 0)
    have BP : Hid (Below w.heap.size w (putL w4 w.heap.size (obL noO (.slice none 0 0) (.slice none 0 0)) 0)) := putL_below (Nat.le_refl _) _ 0 B4.out
    obtain ⟨z0, z1, z2, z3, z4, z5, z6, z7, zf, zh⟩ := Z4.out
    simp only [noO, noS] at z0 z1 z2 z3 z4 z5 z6 z7
    clear O4 Z4 B4 HP4 HU4 hbw
    go_wp2
    obtain ⟨p0, p1, p2, p3, p4, p5, p6, p7, pf, ph⟩ := HPT.out
    have bp := BP.out
    simp only [obL, noO, noS, putL, Nat.zero_add, Nat.reduceAdd] at p0 p1 p2 p3 p4 p5 p6 p7 bp
    refine bodyPost_ret (v := .tuple #[obV noO (.slice none 0 0) (.slice none 0 0), .int .i64 0, .bool false]) (by unfold obV noO noS; simp [results, Tryz.results11, go_sem, p0, p1, p2, p3, p4, p5, p6, p7]) rfl ⟨.slice none 0 0, .slice none 0 0, by rw [HRO.out]; rfl, by rw [HRO.out]; exact HasF.none _ _, by rw [HRO.out]; exact HasF.none _ _, (fun g hg => by cases hg), bp⟩
end Go.Proofs.YtemmgfnepdgpbaaGreatDoor
namespace Go.Proofs.YtemmgfnepdgpbaaGreatDoor
open Go

theorem gPowTypeS : (Tryz.prog.globals[2]?).map (·.type) = some 175 := by kernel_rfl
theorem underPAS : Tryz.prog.underlying 175 = some (.array 20 145) := by kernel_rfl
theorem underPUS : Tryz.prog.underlying 145 = some (.int .u64) := by kernel_rfl
theorem cellsPAS : Tryz.prog.cellsOf 175 = 20 := by kernel_rfl
theorem cellsPUS : Tryz.prog.cellsOf 145 = 1 := by kernel_rfl
theorem powS_is : (Rows.laid_internal_strconv_uint64pow10 : DataW Unit) = Lib.tabData .u64 Lib.pow10Tab := rfl
theorem powS_reads {W : World} (h : Lib.VarReads Tryz.prog W "internal/strconv.uint64pow10" Rows.laid_internal_strconv_uint64pow10) : TabS W := by
  obtain ⟨g, t, cs, fuel, p, hg, ht, hv, hd⟩ := h
  obtain rfl := Option.some.inj (gPowS.symm.trans hg)
  obtain rfl := Option.some.inj (gPowTypeS.symm.trans ht)
  rw [powS_is] at hd
  unfold TabS Lib.TabIs
  rw [hv, ← Lib.cells_of_tab underPAS underPUS cellsPUS cellsPAS hd]
end Go.Proofs.YtemmgfnepdgpbaaGreatDoor
namespace Go.Proofs.YtemmgfnepdgpbaaGreatDoor
open Go

theorem readObject_laid {W : World} (h : laidMetH Tryz.prog Rows.fnExactReadObjectRow.laid W) : TabS W := by
  rw [MakeChecks.laidMetH_plain _ _ _ (by kernel_rfl)] at h
  exact powS_reads (Lib.laidMet.reads h (.tail _ (.tail _ (.head _))))
end Go.Proofs.YtemmgfnepdgpbaaGreatDoor
