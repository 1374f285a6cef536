/-
  The walk of FnExactReadObject, given what the program's ReadObject answers.
  The program's ReadObject, by its contract.
  A region that draws its order: its first n operations whichever way, by what each of them leaves; the others wait for them and come one behind the other.
  Rows and responses in memory: what a store leaves.
-/
import Derived.Test.YtemmgfnepdgpbaaGreatDoorK29
import Derived.Test.YtemmgfnepdgpbaaGreatDoorK27
import Derived.Test.YtemmgfnepdgpbaaGreatDoorK28
import Derived.Test.YtemmgfnepdgpbaaGreatDoorShelfP
import Derived.Test.YtemmgfnepdgpbaaGreatDoorRows
import Derived.StillTail
import Derived.Deep.QuietTactic
import Derived.Lib.QuietBelow
import Derived.BigQuiet
import Derived.Test.YtemmgfnepdgpbaaGreatDoorK19
import Derived.Test.YtemmgfnepdgpbaaGreatDoorK17
import Derived.Laws.Append
namespace Go.Proofs.YtemmgfnepdgpbaaGreatDoor
open Go.RowKit Go.Sort St
set_option linter.unusedVariables false
set_option linter.unusedSimpArgs false

def rO (R : Option Ob) : Ob := R.getD noO
def rN (R : Option Ob) : Int := match R with
  | some o => ((shoL o).length : Nat)
  | none => 0
theorem RoQ.is {w w' : World} {R : Option Ob} {z : RoR} (h : RoQ w w' R z) : z.o = rO R ∧ z.b = R.isSome ∧ z.n = rN R := by
  cases R with
  | none => obtain ⟨h1, h2, h3⟩ := h.no rfl; exact ⟨h1, h2, h3⟩
  | some o => obtain ⟨h1, h2, h3⟩ := h.yes o rfl; exact ⟨h1, h2, h3⟩
theorem rO_fit (t : List UInt8) : (rO (rdO t)).l.length ≤ 30 ∧ (rO (rdO t)).r.l.length ≤ 30 ∧ (rO (rdO t)).k.size ≤ 500 := by
  cases e : rdO t with
  | none => exact ⟨Nat.zero_le _, Nat.zero_le _, Nat.zero_le _⟩
  | some o =>
    have hk := obOk (rdO_ok e).1
    exact ⟨(fldsOk_parts hk.fl).1, (fldsOk_parts hk.rl).1, hk.ksz⟩
/-- The specification's answer, in a box; all behind B stays as it lies. -/
structure An (B W : Nat) (V : World) (O : Ob) (p u : Value) (q : Nat) : Prop where
  hp : HasF V B p O.l
  hu : HasF V B u O.r.l
  bx : ObB V q O p u
  lp : ∀ g, p.ownBlock = some g → g < W
  lu : ∀ g, u.ownBlock = some g → g < W
  lq : q < W
theorem An.kept {B W : Nat} {V V' : World} {O : Ob} {p u : Value} {q : Nat} (h : An B W V O p u q) (hb : Below V.heap.size V V') : An B W V' O p u q := ⟨h.hp.kept hb, h.hu.kept hb, h.bx.next hb, h.lp, h.lu, h.lq⟩
theorem An.two {B W : Nat} {V V' : World} {O : Ob} {p u : Value} {q : Nat} {a b : Option Nat} (h : An B W V O p u q) (ht : Two V V' a b) (ha : ∀ k, a = some k → W ≤ k) (hb : ∀ k, b = some k → W ≤ k) : An B W V' O p u q :=
  ⟨h.hp.two ht (fun k hk e => by have := ha k e.symm; have := h.lp k hk; omega) (fun k hk e => by have := hb k e.symm; have := h.lp k hk; omega),
   h.hu.two ht (fun k hk e => by have := ha k e.symm; have := h.lu k hk; omega) (fun k hk e => by have := hb k e.symm; have := h.lu k hk; omega),
   h.bx.same (ht.block q h.bx.hi (fun e => by have := ha q e.symm; have := h.lq; omega) (fun e => by have := hb q e.symm; have := h.lq; omega)) ht.size, h.lp, h.lu, h.lq⟩
end Go.Proofs.YtemmgfnepdgpbaaGreatDoor
namespace Go.Proofs.YtemmgfnepdgpbaaGreatDoor
open Go.RowKit Go.Sort St
set_option linter.unusedVariables false
set_option linter.unusedSimpArgs false

theorem HasF.solidS {w : World} {B : Nat} {v : Value} {l : List Fl} (h : HasF w B v l) : Solid v := by
  rcases h with ⟨rfl, _⟩ | ⟨g, cap, cur, rfl, _⟩
  · intro n c e; injection e with _ _ e; exact e.symm
  · intro n c e; injection e with e _ _; cases e
theorem HasF.fitsS {w : World} {B : Nat} {v : Value} {l : List Fl} (h : HasF w B v l) (h1 : szL l ≤ 1048576) (h2 : l.length ≤ 1048576) : Fits w v l := ⟨h.fls, h1, h2, h.solidS⟩
theorem hasPre (t s : ByteArray) : Lib.hasPrefix t.data.toList s.data.toList = true ↔ s.data.toList <+: t.data.toList := by
  rw [← Lib.hasPrefix_of_take, Bool.and_eq_true, decide_eq_true_eq, beq_iff_eq, List.prefix_iff_eq_take]
  constructor
  · rintro ⟨_, h⟩; exact h.symm
  · intro h
    refine ⟨?_, h.symm⟩
    have := congrArg List.length h
    rw [List.length_take] at this
    omega
theorem void_eqS {s : ByteArray} : (s.toList == []) = decide (s.size = 0) := by
  have hlen : s.data.toList.length = s.size := by simp
  rw [ByteArray.toList_eq, ← hlen]
  cases s.data.toList <;> simp
theorem implBw (t s : ByteArray) (w : World) :
    Calls Tryz.prog 36 #[.string t, .string s] w fun e w' => e = .returned (.bool (decide (0 < s.size ∧ s.data.toList <+: t.data.toList))) ∧ w = w' := by
  have hp := hasPre t s
  have hv := void_eqS (s := s)
  have j1 := fun W => Tryz.strings_HasPrefix t s W
  by_cases h0 : s.size = 0
  · have HR : Hid (decide (0 < s.size ∧ s.data.toList <+: t.data.toList) = false) := (show _ = _ from decide_eq_false (fun h => by omega))
    rw [decide_eq_true h0] at hv
    have hv2 : (s.toList != []) = false := by simp [bne, hv]
    clear h0 hp
    go_enter Tryz.func36, Tryz.ntmps36
    go_wp2
    go_ret
    exact ⟨by rw [HR.out]; rfl, rfl⟩
  · have HR : Hid (decide (0 < s.size ∧ s.data.toList <+: t.data.toList) = Lib.hasPrefix t.data.toList s.data.toList) := (show _ = _ by
      cases e : Lib.hasPrefix t.data.toList s.data.toList with
      | true => exact decide_eq_true ⟨by omega, hp.1 e⟩
      | false => exact decide_eq_false (fun h => by rw [hp.2 h.2] at e; cases e))
    rw [decide_eq_false h0] at hv
    have hv2 : (s.toList != []) = true := by simp [bne, hv]
    generalize Lib.hasPrefix t.data.toList s.data.toList = q at j1 HR
    clear h0 hp
    go_enter Tryz.func36, Tryz.ntmps36
    go_wp2_with (go_at_call 73; refine (j1 _).mono ?_; rintro e w' ⟨rfl, hw⟩; rw [hw])
    go_ret
    exact ⟨by rw [HR.out]; rfl, rfl⟩
/-- What the walks ask of the world: the cell of MaxLen holds a number, the table of powers lies as it was laid. -/
def XsW (w : World) : Prop := (∃ m : Int, w.cell? ⟨3, 0, none⟩ = some (.int .i64 m)) ∧ TabS w
theorem XsW.low {w w' : World} (h : XsW w) (hb : Below w.heap.size w w') : XsW w' := by
  obtain ⟨⟨m, hm⟩, ht⟩ := h
  exact ⟨⟨m, (hb.cell (p := ⟨3, 0, none⟩) (cell_lt hm)).trans hm⟩, ht.low hb⟩
theorem HasF.none (w : World) (B : Nat) : HasF w B (.slice Option.none 0 0) [] := .inl ⟨rfl, rfl⟩
set_option maxRecDepth 100000 in
set_option maxHeartbeats 8000000 in
theorem implRdO (t : ByteArray) (w : World) (hx : XsW w) (ht : t.size ≤ 1048576) :
    Calls Tryz.prog 11 #[.string t] w fun e w' => ∃ p u, e = .returned (.tuple #[obV (rO (rdO t.data.toList)) p u, .int .i64 (rN (rdO t.data.toList)), .bool (rdO t.data.toList).isSome]) ∧ HasF w' w.heap.size p (rO (rdO t.data.toList)).l ∧ HasF w' w.heap.size u (rO (rdO t.data.toList)).r.l ∧ (∀ g, p.ownBlock = some g → u.ownBlock ≠ some g) ∧ Below w.heap.size w w' := by
  obtain ⟨R, hR⟩ : ∃ R, rdO t.data.toList = R := ⟨_, rfl⟩
  have HR0 : Hid (rdO t.data.toList = R) := hR
  rw [hR]
  clear hR
  have hx0 := hx
  obtain ⟨⟨m, hm⟩, hT⟩ := hx
  have HT : Hid (TabS w) := hT
  have ZX0 : Hid (ObB (w.alloc (.cells #[.string ⟨#[]⟩, .slice none 0 0, .int .i64 0, .slice none 0 0, .string ⟨#[]⟩, .int .i64 0, .int .i64 0, .int .i64 0] 28)) w.heap.size noO (.slice none 0 0) (.slice none 0 0)) := (show ObB _ _ _ _ _ from ObB.new w noO (.slice none 0 0) (.slice none 0 0) 28)
  have bA := (Below.refl w.heap.size w).alloc (Nat.le_refl _) (.cells #[.string ⟨#[]⟩, .slice none 0 0, .int .i64 0, .slice none 0 0, .string ⟨#[]⟩, .int .i64 0, .int .i64 0, .int .i64 0] 28)
  have BA : Hid (Below w.heap.size w (w.alloc (.cells #[.string ⟨#[]⟩, .slice none 0 0, .int .i64 0, .slice none 0 0, .string ⟨#[]⟩, .int .i64 0, .int .i64 0, .int .i64 0] 28))) := bA
  have hmA := (bA.cell (p := ⟨3, 0, none⟩) (cell_lt hm)).trans hm
  have hgm := cell_lt hm
  have hob := fun B W hS hM hne => implObjS B t m W hS ht hM hne
  have hsh := fun o p u W hI hTT => implShO o p u W hI hTT
  unfold obV at hob hsh
  clear hx0 hT hm bA
  go_enter Tryz.func11, Tryz.ntmps11
  generalize hwA : w.alloc (.cells #[.string ⟨#[]⟩, .slice none 0 0, .int .i64 0, .slice none 0 0, .string ⟨#[]⟩, .int .i64 0, .int .i64 0, .int .i64 0] 28) = wA at ZX0 BA hmA
  have hBs : wA.heap.size = w.heap.size + 1 := by rw [← hwA]; simp
  go_wp2_with fail
  refine (implNewS t wA).mono ?_
  rintro e w1 ⟨rfl, hw1⟩
  have b1 : Below wA.heap.size wA w1 := by rw [hw1]; exact (Below.refl _ wA).alloc (Nat.le_refl _) _
  have S1 : Sdr w1 wA.heap.size t 0 := by rw [hw1]; exact Sdr.new wA t
  have m1 := (b1.cell (p := ⟨3, 0, none⟩) (cell_lt hmA)).trans hmA
  have Z1 : Hid (ObB w1 w.heap.size noO (.slice none 0 0) (.slice none 0 0)) := ZX0.out.next b1
  have B1 : Hid (Below w.heap.size w w1) := (show Below _ _ _ from BA.out.trans (b1.mono BA.out.size))
  clear hw1 b1 ZX0 BA hmA hwA
  rw [hBs] at S1
  go_wp2_with fail
  have hnb : 3 ≠ w.heap.size + 1 := by have hgm2 : 3 < w.heap.size := hgm; omega
  have hob1 := hob _ w1 S1 m1 hnb
  clear hob
  refine hob1.mono ?_
  rintro e w2 ⟨o, p, u, rfl, hO⟩
  obtain ⟨pa, pc, hpv, _⟩ := hO.hp.form
  subst hpv
  obtain ⟨ua, uc, huv, _⟩ := hO.hu.form
  subst huv
  have b2 : Below w.heap.size w w2 := B1.out.grown hO.gr B1.out.size (fun j hj => by injection hj with hj; omega)
  have hz1 : w.heap.size < w1.heap.size := Z1.out.hi
  have Z2 : Hid (ObB w2 w.heap.size noO (.slice none 0 0) (.slice none 0 0)) := Z1.out.by hO.gr (by omega)
  have I2 : ObIn w2 (.slice pa o.l.length pc) (.slice ua o.r.l.length uc) o := ⟨hO.hp.fitsS (by have := hO.z1; omega) (by have := hO.n1; omega), ⟨hO.hu.fitsS (by have := hO.z2; omega) (by have := hO.n2; omega), by have := hO.bz; omega⟩, by have := hO.kz; omega⟩
  have hba := (Below.refl w2.heap.size w2).alloc (Nat.le_refl _) (.cells #[.string o.k, .slice pa o.l.length pc, .int .i64 o.r.s, .slice ua o.r.l.length uc, .string o.r.b, .int .i64 o.asked, .int .i64 o.got, .int .i64 o.ep] 28)
  have O3 : Hid (ObB (w2.alloc (.cells #[.string o.k, .slice pa o.l.length pc, .int .i64 o.r.s, .slice ua o.r.l.length uc, .string o.r.b, .int .i64 o.asked, .int .i64 o.got, .int .i64 o.ep] 28)) w2.heap.size o (.slice pa o.l.length pc) (.slice ua o.r.l.length uc)) := (show ObB _ _ _ _ _ from ObB.new w2 o _ _ 28)
  have B3 : Hid (Below w.heap.size w (w2.alloc (.cells #[.string o.k, .slice pa o.l.length pc, .int .i64 o.r.s, .slice ua o.r.l.length uc, .string o.r.b, .int .i64 o.asked, .int .i64 o.got, .int .i64 o.ep] 28))) := b2.alloc b2.size _
  have Z3 : Hid (ObB (w2.alloc (.cells #[.string o.k, .slice pa o.l.length pc, .int .i64 o.r.s, .slice ua o.r.l.length uc, .string o.r.b, .int .i64 o.asked, .int .i64 o.got, .int .i64 o.ep] 28)) w.heap.size noO (.slice none 0 0) (.slice none 0 0)) := Z2.out.next hba
  have HP3 : Hid (HasF (w2.alloc (.cells #[.string o.k, .slice pa o.l.length pc, .int .i64 o.r.s, .slice ua o.r.l.length uc, .string o.r.b, .int .i64 o.asked, .int .i64 o.got, .int .i64 o.ep] 28)) w1.heap.size (.slice pa o.l.length pc) o.l) := hO.hp.kept hba
  have HU3 : Hid (HasF (w2.alloc (.cells #[.string o.k, .slice pa o.l.length pc, .int .i64 o.r.s, .slice ua o.r.l.length uc, .string o.r.b, .int .i64 o.asked, .int .i64 o.got, .int .i64 o.ep] 28)) w1.heap.size (.slice ua o.r.l.length uc) o.r.l) := hO.hu.kept hba
  have I3 : Hid (ObIn (w2.alloc (.cells #[.string o.k, .slice pa o.l.length pc, .int .i64 o.r.s, .slice ua o.r.l.length uc, .string o.r.b, .int .i64 o.asked, .int .i64 o.got, .int .i64 o.ep] 28)) (.slice pa o.l.length pc) (.slice ua o.r.l.length uc) o) := I2.kept hba
  have HNE : Hid (∀ g, (Value.slice pa o.l.length pc).ownBlock = some g → (Value.slice ua o.r.l.length uc).ownBlock ≠ some g) := hO.ne
  have HLA : Hid (lastO t.data.toList o = R) := (last_is hO.is).trans HR0.out
  have T3 := HT.out.low B3.out
  have hsh1 := hsh o (.slice pa o.l.length pc) (.slice ua o.r.l.length uc) _ I3.out T3
  clear Z1 B1 S1 m1 b2 Z2 I2 hba hO hob1 HT hsh
  go_wp2_with fail
  refine hsh1.mono ?_
  rintro e w4 ⟨rfl, hb4⟩
  have hb4' : Below (w2.alloc (.cells #[.string o.k, .slice pa o.l.length pc, .int .i64 o.r.s, .slice ua o.r.l.length uc, .string o.r.b, .int .i64 o.asked, .int .i64 o.got, .int .i64 o.ep] 28)).heap.size _ w4 := hb4
  have O4 : Hid (ObB w4 w2.heap.size o (.slice pa o.l.length pc) (.slice ua o.r.l.length uc)) := O3.out.next hb4
  have Z4 : Hid (ObB w4 w.heap.size noO (.slice none 0 0) (.slice none 0 0)) := Z3.out.next hb4
  have B4 : Hid (Below w.heap.size w w4) := (show Below _ _ _ from B3.out.trans (hb4.mono B3.out.size))
  have HP4 : Hid (HasF w4 w1.heap.size (.slice pa o.l.length pc) o.l) := HP3.out.kept hb4
  have HU4 : Hid (HasF w4 w1.heap.size (.slice ua o.r.l.length uc) o.r.l) := HU3.out.kept hb4
  clear O3 Z3 B3 HP3 HU3 I3 hb4 hb4' hsh1 T3
  have hbw := fun W => implBw t (shwO o) W
  by_cases hc : obB o = true ∧ shoL o <+: t.data.toList
  · have hS : shwO o = txtL (shoL o) := by unfold shwO; rw [if_pos hc.1]
    have hd : decide (0 < (shwO o).size ∧ (shwO o).data.toList <+: t.data.toList) = true := decide_eq_true (by rw [hS, txt_sizG, txt_lstG]; exact ⟨sho_pos, hc.2⟩)
    have HSZ : Hid ((shwO o).size = (shoL o).length) := (show _ = _ by rw [hS, txt_sizG])
    have HRO : Hid (R = some o) := (show _ = _ by have := HLA.out; unfold lastO at this; rw [if_pos hc] at this; exact this.symm)
    rw [hd] at hbw
    clear hS hd hc HLA
    generalize shwO o = S at hbw HSZ ⊢
    go_wp2_with fail
    refine (hbw _).mono ?_
    rintro e w5 ⟨rfl, rfl⟩
    have HPT : Hid (ObB (putL w4 w.heap.size (obL o (.slice pa o.l.length pc) (.slice ua o.r.l.length uc)) 0) w.heap.size o (.slice pa o.l.length pc) (.slice ua o.r.l.length uc)) := Z4.out.puts _ _ _
    have hgp := grown_putL (grown_selfS w4 (some w.heap.size)) (obL o (.slice pa o.l.length pc) (.slice ua o.r.l.length uc)) 0
    have HP5 : Hid (HasF (putL w4 w.heap.size (obL o (.slice pa o.l.length pc) (.slice ua o.r.l.length uc)) 0) w.heap.size (.slice pa o.l.length pc) o.l) := (HP4.out.by hgp hz1).low (by omega)
    have HU5 : Hid (HasF (putL w4 w.heap.size (obL o (.slice pa o.l.length pc) (.slice ua o.r.l.length uc)) 0) w.heap.size (.slice ua o.r.l.length uc) o.r.l) := (HU4.out.by hgp hz1).low (by omega)
    have BP : Hid (Below w.heap.size w (putL w4 w.heap.size (obL o (.slice pa o.l.length pc) (.slice ua o.r.l.length uc)) 0)) := putL_below (Nat.le_refl _) _ 0 B4.out
    obtain ⟨o0, o1, o2, o3, o4, o5, o6, o7, of, oh⟩ := O4.out
    obtain ⟨z0, z1, z2, z3, z4, z5, z6, z7, zf, zh⟩ := Z4.out
    simp only [noO, noS] at z0 z1 z2 z3 z4 z5 z6 z7
    clear hgp O4 Z4 B4 HP4 HU4 hbw
    go_wp2
    obtain ⟨p0, p1, p2, p3, p4, p5, p6, p7, pf, ph⟩ := HPT.out
    have bp := BP.out
    have vp := HP5.out
    have up := HU5.out
    simp only [obL, putL, Nat.zero_add, Nat.reduceAdd] at p0 p1 p2 p3 p4 p5 p6 p7 bp vp up
    refine bodyPost_ret (v := .tuple #[obV o (.slice pa o.l.length pc) (.slice ua o.r.l.length uc), .int .i64 (S.size : Int), .bool true]) (by unfold obV; simp [results, Tryz.results11, go_sem, p0, p1, p2, p3, p4, p5, p6, p7]) rfl ⟨.slice pa o.l.length pc, .slice ua o.r.l.length uc, by rw [HRO.out, HSZ.out]; rfl, by rw [HRO.out]; exact vp, by rw [HRO.out]; exact up, HNE.out, bp⟩
  · have hd : decide (0 < (shwO o).size ∧ (shwO o).data.toList <+: t.data.toList) = false := decide_eq_false (fun h => by
      unfold shwO at h
      split at h
      · rename_i hB
        rw [txt_lstG] at h
        exact hc ⟨hB, h.2⟩
      · exact absurd h.1 (by decide))
    have HRO : Hid (R = none) := (show _ = _ by have := HLA.out; unfold lastO at this; rw [if_neg hc] at this; exact this.symm)
    rw [hd] at hbw
    clear hd hc HLA
    generalize shwO o = S at hbw ⊢
    go_wp2_with fail
    refine (hbw _).mono ?_
    rintro e w5 ⟨rfl, rfl⟩
    have HPT : Hid (ObB (putL w4 w.heap.size (obL noO (.slice none 0 0) (.slice none 0 0)) 0) w.heap.size noO (.slice none 0 0) (.slice none 0 0)) := Z4.out.puts noO (.slice none 0 0) (.slice none 0 0)
    have BP : Hid (Below w.heap.size w (putL w4 w.heap.size (obL noO (.slice none 0 0) (.slice none 0 0)) 0)) := putL_below (Nat.le_refl _) _ 0 B4.out
    obtain ⟨z0, z1, z2, z3, z4, z5, z6, z7, zf, zh⟩ := Z4.out
    simp only [noO, noS] at z0 z1 z2 z3 z4 z5 z6 z7
    clear O4 Z4 B4 HP4 HU4 hbw
    go_wp2
    obtain ⟨p0, p1, p2, p3, p4, p5, p6, p7, pf, ph⟩ := HPT.out
    have bp := BP.out
    simp only [obL, noO, noS, putL, Nat.zero_add, Nat.reduceAdd] at p0 p1 p2 p3 p4 p5 p6 p7 bp
    refine bodyPost_ret (v := .tuple #[obV noO (.slice none 0 0) (.slice none 0 0), .int .i64 0, .bool false]) (by unfold obV noO noS; simp [results, Tryz.results11, go_sem, p0, p1, p2, p3, p4, p5, p6, p7]) rfl ⟨.slice none 0 0, .slice none 0 0, by rw [HRO.out]; rfl, by rw [HRO.out]; exact HasF.none _ _, by rw [HRO.out]; exact HasF.none _ _, (fun g hg => by cases hg), bp⟩
end Go.Proofs.YtemmgfnepdgpbaaGreatDoor
namespace Go.Proofs.YtemmgfnepdgpbaaGreatDoor
open Go Go.RowKit Go.Sort
set_option linter.unusedVariables false

def updH {α : Type} (f : Nat → α) (i : Nat) (x : α) : Nat → α := fun j => if j = i then x else f j
theorem updH_same {α : Type} (f : Nat → α) (i : Nat) (x : α) : updH f i x i = x := if_pos rfl
theorem updH_other {α : Type} (f : Nat → α) {i j : Nat} (x : α) (h : j ≠ i) : updH f i x j = f j := if_neg h
def leftH (listed : Array Bool) : Nat := listed.toList.count false
theorem leftH_set {listed : Array Bool} {i : Nat} (hi : listed.getD i true = false) : leftH (listed.setIfInBounds i true) + 1 = leftH listed := by
  have hlt : i < listed.size := by
    rcases Nat.lt_or_ge i listed.size with h | h
    · exact h
    · simp [Array.getElem?_eq_none h] at hi
  have he : listed.toList[i]'(by simpa using hlt) = false := by
    simp [hlt] at hi
    simpa using hi
  unfold leftH
  rw [Array.toList_setIfInBounds, List.count_set (by simpa using hlt)]
  have hp : 0 < listed.toList.count false := List.count_pos_iff.2 (by rw [← he]; exact List.getElem_mem _)
  rw [he]
  show listed.toList.count false - 1 + 0 + 1 = listed.toList.count false
  omega
/-- Each of the first n operations waits for elder ones alone. -/
def backB (ops : Array Oper) (n : Nat) : Bool := (List.range n).all fun i => match ops[i]? with
  | some o => o.after.all fun e => !Region.binds .any e || decide (e.on < i)
  | none => true
theorem backB_spec {ops : Array Oper} {n : Nat} (h : backB ops n = true) {i : Nat} {o : Oper} (hi : i < n) (ho : ops[i]? = some o) : ∀ e ∈ o.after, Region.binds .any e = true → e.on < i := by
  intro e he hb
  have h1 := List.all_eq_true.1 h i (List.mem_range.2 hi)
  simp only [ho] at h1
  have h2 := Array.all_eq_true'.1 h1 e he
  rw [hb] at h2
  simpa using h2
theorem firsts {ops : Array Oper} {n : Nat} {listed : Array Bool} (hs : listed.size = ops.size) (hn : n < ops.size) (hb : backB ops n = true) (hr : Region.ready .any ops listed = []) : ∀ i, i < n → listed.getD i false = true := by
  intro i
  induction i using Nat.strongRecOn with
  | _ i ih =>
    intro hi
    cases h : listed.getD i false with
    | true => rfl
    | false =>
      have hlt : i < ops.size := by omega
      have hm : i ∈ Region.ready .any ops listed := mem_ready.2 ⟨getD_in (by omega) h, ops[i], by simp [hlt], fun e he hbd => by
        have h2 := backB_spec hb hi (o := ops[i]) (by simp [hlt]) e he hbd
        exact ih e.on h2 (by omega)⟩
      rw [hr] at hm
      cases hm
theorem allListed {n m : Nat} {listed : Array Bool} (hs : listed.size = n + m) (h1 : ∀ i, i < n → listed.getD i false = true) (h2 : ∀ t, n ≤ t → t < n + m → listed.getD t true = false) : listed = Array.replicate n true ++ Array.replicate m false := by
  apply Array.ext
  · simp [hs]
  · intro i hi1 hi2
    rcases Nat.lt_or_ge i n with h | h
    · have := h1 i h
      simp [hi1] at this
      rw [this, Array.getElem_append_left (by simpa using h)]
      simp
    · have := h2 i h (by omega)
      simp [hi1] at this
      rw [this, Array.getElem_append_right (by simpa using h)]
      simp
section
variable {P : Program}
theorem any_heads {l : List Oper} {Q : Exit → Act → World → Prop} (n : Nat) (hn : n < l.length) (hs : Region.sinkB .any l.toArray n = true) (hc : Region.chainB .any l.toArray n = true)
    (hq : Region.seqB .any l.toArray (l.length - n) n (Array.replicate n true ++ Array.replicate (l.length - n) false) = true) (hb : backB l.toArray n = true)
    (F : (Nat → Value) → Act) (d : Nat → Nat) (S : World → Prop) (G : Nat → World → Value → Prop) (hinj : ∀ i j, i < n → j < n → j ≠ i → d j ≠ d i) (hput : ∀ (i : Nat) (o : Oper), i < n → l[i]? = some o → ∀ (t : Nat → Value) (v : Value), (F t).put o.dst v = F (updH t (d i) v))
    (hstep : ∀ (i : Nat) (o : Oper), i < n → l[i]? = some o → ∀ (t : Nat → Value) (x : World), S x → (∀ e ∈ o.after, Region.binds .any e = true → G e.on x (t (d e.on))) → ∀ K : Act → World → Prop,
      (∀ v y, S y → (∀ j u, j < n → j ≠ i → G j x u → G j y u) → G i y v → K ((F t).put o.dst v) y) →
      if Region.wanted o (yielded l.toArray (F t).tmps) = true then Oper.wp P o (F t) x K Q else K ((F t).put o.dst undef) x)
    (hdone : ∀ (t : Nat → Value) (x : World), S x → (∀ j, j < n → G j x (t (d j))) → wpList P l.toArray Q (l.drop n) (F t) x) :
    ∀ (f : Nat) (listed : Array Bool) (t : Nat → Value) (x : World), leftH listed = f → HeadInv .any l.toArray n listed → S x → (∀ j, j < n → listed.getD j false = true → G j x (t (d j))) → wpAny P .any l.toArray Q f listed (F t) x := by
  have hsz : l.toArray.size = n + (l.length - n) := by simp; omega
  have hn2 : n < l.toArray.size := by simpa using hn
  intro f
  induction f with
  | zero =>
    intro listed t x hf inv hS hG
    have h1 := inv.tail n (Nat.le_refl _) hn2
    have := leftH_set h1
    omega
  | succ f ih =>
    intro listed t x hf inv hS hG
    by_cases hall : ∀ i, i < n → listed.getD i false = true
    · have e := allListed (inv.size.trans hsz) hall (fun u h1 h2 => inv.tail u h1 (by omega))
      have hl : leftH listed = l.length - n := by rw [e]; unfold leftH; simp [List.count_replicate]
      have hf2 : f + 1 = (l.drop n).length := by rw [List.length_drop]; omega
      rw [hf2]
      refine wpAny_of_seq (md := .any) (Q' := Q) (l.drop n) n listed (F t) x (fun j => by simp [List.getElem?_drop]) ?_ (hdone t x hS fun j hj => hG j hj (hall j hj))
      rw [List.length_drop, e]
      exact hq
    · obtain ⟨i0, hi0, hu0⟩ : ∃ i, i < n ∧ listed.getD i false = false := by
        refine Classical.byContradiction fun hno => hall fun i hi => ?_
        cases h : listed.getD i false with
        | true => rfl
        | false => exact absurd ⟨i, hi, h⟩ hno
      have hu0' : listed.getD i0 true = false := getD_in (by rw [inv.size]; omega) hu0
      refine ⟨fun hr => absurd (firsts inv.size hn2 hb hr) hall, fun i hi => ?_⟩
      have hin : i < n := by
        rcases Nat.lt_or_ge i n with h | h
        · exact h
        · exact absurd hi (tail_waits hs hc hn2 inv _ i0 rfl hi0 hu0' i h)
      obtain ⟨h1, o, ho, hdep⟩ := mem_ready.1 hi
      have hdn : ∀ e ∈ o.after, Region.binds .any e = true → e.on < i := backB_spec hb hin ho
      have ho2 : l[i]? = some o := by simpa using ho
      have hc1 := leftH_set h1
      have key := hstep i o hin ho2 t x hS (fun e he hbd => hG e.on (by have := hdn e he hbd; omega) (hdep e he hbd)) (wpAny P .any l.toArray Q f (listed.setIfInBounds i true)) (fun v y hSy hkeep hGi => by
        rw [hput i o hin ho2 t v]
        refine ih _ _ y (by omega) (inv.set hi hin) hSy fun j hj hl => ?_
        by_cases hji : j = i
        · subst hji
          rw [updH_same]
          exact hGi
        · rw [updH_other _ _ (hinj i j hin hj hji)]
          rw [getD_set_ne false (Ne.symm hji)] at hl
          exact hkeep j _ hj hji (hG j hj hl))
      unfold wpOp
      rw [ho]
      show if Region.wanted o (yielded l.toArray (F t).tmps) = true then _ else _
      split
      · rename_i hw
        rw [if_pos hw] at key
        exact Or.inl key
      · rename_i hw
        rw [if_neg hw] at key
        exact key
/-- The first n operations come whichever way; what each leaves (G) is good for as long as the others leave it so; then the rest, in order. -/
theorem region_heads {l : List Oper} {Q : Exit → Act → World → Prop} {id : Nat} {a : Act} {w : World} (n : Nat) (hm : P.follows .mixedOrders = true) (hn : n < l.length) (hs : Region.sinkB .any l.toArray n = true) (hc : Region.chainB .any l.toArray n = true)
    (hq : Region.seqB .any l.toArray (l.length - n) n (Array.replicate n true ++ Array.replicate (l.length - n) false) = true) (hb : backB l.toArray n = true)
    (F : (Nat → Value) → Act) (d : Nat → Nat) (S : World → Prop) (G : Nat → World → Value → Prop) (hinj : ∀ i j, i < n → j < n → j ≠ i → d j ≠ d i) (hput : ∀ (i : Nat) (o : Oper), i < n → l[i]? = some o → ∀ (t : Nat → Value) (v : Value), (F t).put o.dst v = F (updH t (d i) v)) (t0 : Nat → Value) (h0 : a = F t0) (hS : S w.drew)
    (hstep : ∀ (i : Nat) (o : Oper), i < n → l[i]? = some o → ∀ (t : Nat → Value) (x : World), S x → (∀ e ∈ o.after, Region.binds .any e = true → G e.on x (t (d e.on))) → ∀ K : Act → World → Prop,
      (∀ v y, S y → (∀ j u, j < n → j ≠ i → G j x u → G j y u) → G i y v → K ((F t).put o.dst v) y) →
      if Region.wanted o (yielded l.toArray (F t).tmps) = true then Oper.wp P o (F t) x K Q else K ((F t).put o.dst undef) x)
    (hdone : ∀ (t : Nat → Value) (x : World), S x → (∀ j, j < n → G j x (t (d j))) → wpList P l.toArray Q (l.drop n) (F t) x) : (Code.region id l.toArray true).wp P Q a w := by
  subst h0
  refine wp_region_any hm ?_
  have inv0 : HeadInv .any l.toArray n (Array.replicate l.toArray.size false) := ⟨by simp, fun j oj _ hl => (by rw [getD_replicate_false] at hl; cases hl), fun t _ ht => getD_in (by simpa using ht) (getD_replicate_false _ _)⟩
  exact any_heads n hn hs hc hq hb F d S G hinj hput hstep hdone _ _ t0 _ (by unfold leftH; simp) inv0 hS (fun j _ hl => by rw [getD_replicate_false] at hl; cases hl)
end
end Go.Proofs.YtemmgfnepdgpbaaGreatDoor
namespace Go.Proofs.YtemmgfnepdgpbaaGreatDoor
open Go.RowKit Go.Sort
set_option linter.unusedVariables false

theorem newAt (x : World) (o : Obj) : (x.alloc o).heap[x.heap.size]? = some o := heap_alloc_new x o
theorem rowCell {w : World} {g k : Nat} {c : Array Value} {ty : TypeId} {fr : Nat × Nat} (h : w.heap[g]? = some (.cells c ty fr)) : w.cell? ⟨g, k, none⟩ = c[k]? := by simp [World.cell?, h]
/-- A store into a block of another type leaves the row. -/
theorem OwnsF.besides10 {w : World} {B g k : Nat} {v : Value} {l : List Fl} {c : Array Value} {T : TypeId} {fr : Nat × Nat} (h : OwnsF w B v l) (hg : w.heap[g]? = some (.cells c T fr)) (hT : T ≠ 83) (x : Value) : OwnsF (w.setCell ⟨g, k, none⟩ x) B v l := by
  refine ⟨h.1, ?_⟩
  rcases h.2 with h0 | ⟨g', cap, cur, hv, hbg, hg', rest⟩
  · exact .inl h0
  · refine .inr ⟨g', cap, cur, hv, hbg, ?_, rest⟩
    rw [Below.heap_setCell _ _ _ _ (show g' ≠ g from fun e => by subst e; rw [hg] at hg'; injection hg' with e; injection e with _ e _; exact hT e)]
    exact hg'
theorem OwnsF.putlow10 {w : World} {B g : Nat} {v : Value} {l : List Fl} (h : OwnsF w B v l) (hg : g < B) (k : Nat) (x : Value) : OwnsF (w.setCell ⟨g, k, none⟩ x) B v l := by
  refine ⟨h.1, ?_⟩
  rcases h.2 with h0 | ⟨g2, cap, cur, hv, hbg, hg2, rest⟩
  · exact .inl h0
  · exact .inr ⟨g2, cap, cur, hv, hbg, (Below.heap_setCell _ _ _ _ (by show g2 ≠ g; omega)).trans hg2, rest⟩
theorem RsB.put2 {w : World} {b : Nat} {r : Rs} {v : Value} (h : RsB w b r v) (t : ByteArray) : RsB (w.setCell ⟨b, 2, none⟩ (.string t)) b ⟨r.s, r.l, t⟩ v where
  c0 := by rw [World.cell?_setCell_other _ _ _ _ (by simp)]; exact h.c0
  c1 := by rw [World.cell?_setCell_other _ _ _ _ (by simp)]; exact h.c1
  c2 := World.cell?_setCell_same _ _ _ h.c2
  fz := fun k => by rw [World.frozen?_setCell]; exact h.fz k
  hi := by rw [World.size_setCell]; exact h.hi
theorem RsB.puts10 {w : World} {b : Nat} {r0 : Rs} {v0 : Value} (h : RsB w b r0 v0) (r : Rs) (v : Value) : RsB (((w.setCell ⟨b, 0, none⟩ (.int .i64 r.s)).setCell ⟨b, 1, none⟩ v).setCell ⟨b, 2, none⟩ (.string r.b)) b r v where
  c0 := by rw [World.cell?_setCell_other _ _ _ _ (by simp), World.cell?_setCell_other _ _ _ _ (by simp)]; exact World.cell?_setCell_same _ _ _ h.c0
  c1 := by rw [World.cell?_setCell_other _ _ _ _ (by simp)]; exact World.cell?_setCell_same _ _ _ (by rw [World.cell?_setCell_other _ _ _ _ (by simp)]; exact h.c1)
  c2 := World.cell?_setCell_same _ _ _ (by rw [World.cell?_setCell_other _ _ _ _ (by simp), World.cell?_setCell_other _ _ _ _ (by simp)]; exact h.c2)
  fz := fun k => by rw [World.frozen?_setCell, World.frozen?_setCell, World.frozen?_setCell]; exact h.fz k
  hi := by rw [World.size_setCell, World.size_setCell, World.size_setCell]; exact h.hi
end Go.Proofs.YtemmgfnepdgpbaaGreatDoor
