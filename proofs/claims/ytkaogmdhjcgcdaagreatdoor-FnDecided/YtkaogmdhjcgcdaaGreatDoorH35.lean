/-
  A date in a block, and one that a text is the date of.
  Policy as plain data: what is right, how long it is fresh, how old it is, what is to be done.
  The specification's l9Told by its contract.
  The specification's ReadControl by its contract.
  The specification's tags by their contracts: TagOk, ShowTag, ReadTag, Strong, Alike.
  The specification's ReadTag, Strong and Alike by their contracts.
  A row of numbers that a call makes and appends to.
-/
import Derived.Test.YtkaogmdhjcgcdaaGreatDoorH29
import Derived.Test.YtkaogmdhjcgcdaaGreatDoorH27
import Derived.Test.YtkaogmdhjcgcdaaGreatDoorH12
import Derived.Test.YtkaogmdhjcgcdaaGreatDoorH16
import Derived.Test.YtkaogmdhjcgcdaaGreatDoorH10
import Derived.Test.YtkaogmdhjcgcdaaGreatDoorH34
import Derived.Test.YtkaogmdhjcgcdaaGreatDoorH14
import Derived.Test.YtkaogmdhjcgcdaaGreatDoorH05
import Derived.Test.YtkaogmdhjcgcdaaGreatDoorH19
import Derived.Deep.DeepCutAuto
import Derived.Test.YtkaogmdhjcgcdaaGreatDoorRows
import Derived.WalkKit
import Derived.WalkSpells
import Derived.Laws.Strings
import Derived.Lib.OthersKept
namespace Go.Proofs.YtkaogmdhjcgcdaaGreatDoor.Dd
open Go.RowKit Go.Sort

/-- A date in a block. -/
def Dt (w : World) (g : Nat) (y m d h i s : Int) : Prop := g < w.heap.size ∧ w.cell? ⟨g, 0, none⟩ = some (.int .i64 y) ∧ w.cell? ⟨g, 1, none⟩ = some (.int .i64 m) ∧ w.cell? ⟨g, 2, none⟩ = some (.int .i64 d) ∧ w.cell? ⟨g, 3, none⟩ = some (.int .i64 h) ∧ w.cell? ⟨g, 4, none⟩ = some (.int .i64 i) ∧ w.cell? ⟨g, 5, none⟩ = some (.int .i64 s)
theorem Dt.below {w w' : World} {g B : Nat} {y m d h i s : Int} (k : Dt w g y m d h i s) (hb : Below B w w') (hg : g < B) : Dt w' g y m d h i s :=
  ⟨Nat.lt_of_lt_of_le k.1 hb.size, (hb.cell (p := ⟨g, 0, none⟩) hg).trans k.2.1, (hb.cell (p := ⟨g, 1, none⟩) hg).trans k.2.2.1, (hb.cell (p := ⟨g, 2, none⟩) hg).trans k.2.2.2.1, (hb.cell (p := ⟨g, 3, none⟩) hg).trans k.2.2.2.2.1, (hb.cell (p := ⟨g, 4, none⟩) hg).trans k.2.2.2.2.2.1, (hb.cell (p := ⟨g, 5, none⟩) hg).trans k.2.2.2.2.2.2⟩
theorem Dt.grew {w w' : World} {g : Nat} {y m d h i s : Int} (k : Dt w g y m d h i s) (hb : Grew w w') : Dt w' g y m d h i s := k.below hb.1 k.1
theorem Dt.alloc {w : World} {g : Nat} {y m d h i s : Int} (k : Dt w g y m d h i s) (o : Obj) : Dt (w.alloc o) g y m d h i s := k.grew ((Grew.refl w).alloc o)
theorem Dt.born (w : World) (t : TypeId) (y m d h i s : Int) : Dt (w.alloc (.cells #[.int .i64 y, .int .i64 m, .int .i64 d, .int .i64 h, .int .i64 i, .int .i64 s] t)) w.heap.size y m d h i s :=
  ⟨by simp, boxCells (Grew.refl _)⟩

/-- A block of six noughts, not frozen. -/
def Zb (x : World) (g : Nat) : Prop := Dt x g 0 0 0 0 0 0 ∧ ∀ j, x.frozen? ⟨g, j, none⟩ = false
theorem Zb.grew {x x' : World} {g : Nat} (h : Zb x g) (hb : Grew x x') : Zb x' g := ⟨h.1.grew hb, fun j => (hb.1.frozen (p := ⟨g, j, none⟩) h.1.1).trans (h.2 j)⟩
theorem Zb.of {w x : World} {t : TypeId} (hb : Grew (w.alloc (.cells #[.int .i64 0, .int .i64 0, .int .i64 0, .int .i64 0, .int .i64 0, .int .i64 0] t)) x) : Zb x w.heap.size := ⟨(Dt.born w t 0 0 0 0 0 0).grew hb, fun j => boxFree hb j⟩
theorem Zb.puts {x : World} {g : Nat} (z : Zb x g) (v0 v1 v2 v3 v4 v5 : Int) : Dt ((((((x.setCell ⟨g, 0, none⟩ (.int .i64 v0)).setCell ⟨g, 1, none⟩ (.int .i64 v1)).setCell ⟨g, 2, none⟩ (.int .i64 v2)).setCell ⟨g, 3, none⟩ (.int .i64 v3)).setCell ⟨g, 4, none⟩ (.int .i64 v4)).setCell ⟨g, 5, none⟩ (.int .i64 v5)) g v0 v1 v2 v3 v4 v5 := by
  obtain ⟨⟨hz, c0, c1, c2, c3, c4, c5⟩, _⟩ := z
  refine ⟨by simpa [World.setCell] using hz, ?_, ?_, ?_, ?_, ?_, ?_⟩
  all_goals simp [go_sem, c0, c1, c2, c3, c4, c5]
theorem Grew.puts {w x : World} {g : Nat} (h : Grew w x) (hg : w.heap.size ≤ g) (v0 v1 v2 v3 v4 v5 : Value) : Grew w ((((((x.setCell ⟨g, 0, none⟩ v0).setCell ⟨g, 1, none⟩ v1).setCell ⟨g, 2, none⟩ v2).setCell ⟨g, 3, none⟩ v3).setCell ⟨g, 4, none⟩ v4).setCell ⟨g, 5, none⟩ v5) :=
  (((((h.put hg 0 _).put hg 1 _).put hg 2 _).put hg 3 _).put hg 4 _).put hg 5 _
/-- What ReadDate answers: the date that the text is of, or nothing. -/
def ReadIs (t : ByteArray) (v : Value) : Prop := (∃ y m d h i s : Int, okD y m d h i s ∧ showA y m d h i s = t ∧ v = .tuple #[.agg #[.int .i64 y, .int .i64 m, .int .i64 d, .int .i64 h, .int .i64 i, .int .i64 s], .bool true]) ∨ ((∀ y m d h i s : Int, okD y m d h i s → showA y m d h i s ≠ t) ∧ v = .tuple #[.agg #[.int .i64 0, .int .i64 0, .int .i64 0, .int .i64 0, .int .i64 0, .int .i64 0], .bool false])
/-- A text has one date. -/
theorem show_one {y m d h i s y' m' d' h' i' s' : Int} (ok : okD y m d h i s) (ok' : okD y' m' d' h' i' s') {t : ByteArray} (e : showA y m d h i s = t) (e' : showA y' m' d' h' i' s' = t) : y = y' ∧ m = m' ∧ d = d' ∧ h = h' ∧ i = i' ∧ s = s' := by
  obtain ⟨a1, a2, a3, a4, a5, a6, _⟩ := parts_of ok e
  obtain ⟨b1, b2, b3, b4, b5, b6, _⟩ := parts_of ok' e'
  exact ⟨a1.symm.trans b1, a2.symm.trans b2, a3.symm.trans b3, a4.symm.trans b4, a5.symm.trans b5, a6.symm.trans b6⟩
theorem ReadIs.one {t : ByteArray} {v v' : Value} (h : ReadIs t v) (h' : ReadIs t v') : v = v' := by
  rcases h with ⟨y, m, d, hh, i, s, ok, e, rfl⟩ | ⟨no, rfl⟩
  · rcases h' with ⟨y', m', d', hh', i', s', ok', e', rfl⟩ | ⟨no', rfl⟩
    · obtain ⟨rfl, rfl, rfl, rfl, rfl, rfl⟩ := show_one ok ok' e e'
      rfl
    · exact absurd e (no' _ _ _ _ _ _ ok)
  · rcases h' with ⟨y', m', d', hh', i', s', ok', e', rfl⟩ | ⟨no', rfl⟩
    · exact absurd e' (no _ _ _ _ _ _ ok')
    · rfl
theorem showV_full {y m d h i s : Int} {t : ByteArray} (hz : t.size = 29) (e : showV y m d h i s = t) : okD y m d h i s ∧ showA y m d h i s = t := by
  unfold showV at e
  by_cases hok : okB y m d h i s = true
  · rw [if_pos hok] at e
    exact ⟨of_decide_eq_true hok, e⟩
  · rw [if_neg hok] at e
    rw [← e] at hz
    cases hz
theorem showV_of {y m d h i s : Int} (ok : okD y m d h i s) : showV y m d h i s = showA y m d h i s := by
  unfold showV; rw [if_pos (show okB y m d h i s = true from decide_eq_true ok)]
end Go.Proofs.YtkaogmdhjcgcdaaGreatDoor.Dd
namespace Go.Proofs.YtkaogmdhjcgcdaaGreatDoor
open Go.RowKit
set_option linter.unusedVariables false

/-- cache-control, etag, expires, date, age, authorization -/
def nCC : ByteArray := ⟨#[99, 97, 99, 104, 101, 45, 99, 111, 110, 116, 114, 111, 108]⟩
def nET : ByteArray := ⟨#[101, 116, 97, 103]⟩
def nEX : ByteArray := ⟨#[101, 120, 112, 105, 114, 101, 115]⟩
def nDA : ByteArray := ⟨#[100, 97, 116, 101]⟩
def nAG : ByteArray := ⟨#[97, 103, 101]⟩
/-- The control of fields, and whether they have a tag. -/
def ctlOf (l : List Fl) : Ct := rdCt (getF l nCC).1
def tagOf (l : List Fl) : Bool := (rdT (getF l nET).1).isSome
/-- The moment of a text: that of the date that it shows; -1 where it shows none. -/
def MomIs (t : ByteArray) (n : Int) : Prop := (∃ y m d h i s : Int, Dd.okD y m d h i s ∧ Dd.showA y m d h i s = t ∧ n = Dd.momN y m d h i s) ∨ ((∀ y m d h i s : Int, Dd.okD y m d h i s → Dd.showA y m d h i s ≠ t) ∧ n = -1)
theorem MomIs.ex (t : ByteArray) : ∃ n, MomIs t n := by
  by_cases h : ∃ y m d h i s : Int, Dd.okD y m d h i s ∧ Dd.showA y m d h i s = t
  · obtain ⟨y, m, d, hh, i, s, h1, h2⟩ := h
    exact ⟨_, .inl ⟨y, m, d, hh, i, s, h1, h2, rfl⟩⟩
  · exact ⟨-1, .inr ⟨fun y m d hh i s h1 h2 => h ⟨y, m, d, hh, i, s, h1, h2⟩, rfl⟩⟩
/-- The moment of a field. -/
def FldMom (l : List Fl) (name : ByteArray) (n : Int) : Prop := MomIs (getF l name).1 n
theorem FldMom.ex (l : List Fl) (name : ByteArray) : ∃ n, FldMom l name n := MomIs.ex _
def lifeF (c : Ct) (e d : Int) : Int := if 0 ≤ c.s then c.s else if 0 ≤ c.a then c.a else if 0 ≤ e ∧ 0 ≤ d then maxI 0 (e - d) else 0
/-- How long a response is fresh, its expires and date being e and d. -/
def lifeV (r : Rs) (e d : Int) : Int := if rsOk r = true then lifeF (ctlOf r.l) e d else -1
def ageF (o : Ob) (told d now : Int) : Int := minI 1000000000 (maxI (if 0 ≤ d then maxI 0 (o.got - d) else 0) (told + o.got - o.asked) + now - o.got)
/-- How old an object is, its date being d. -/
def ageV (o : Ob) (now d : Int) : Int := if obB o = true ∧ momB now = true ∧ o.got ≤ now then ageF o (numV 10 15 (getF o.r.l nAG).1) d now else -1
def freshV (o : Ob) (now e d : Int) : Bool := decide (0 ≤ ageV o now d) && (decide (ageV o now d < lifeV o.r e d) && !(ctlOf o.r.l).nc)
def mayV (a : Ct) (age : Int) : Bool := !a.nc && (!a.ns && (decide (a.a < 0) || decide (age ≤ a.a)))
def staleV (a b : Ct) (age life : Int) : Bool := !b.nc && (!b.mu && (decide (0 ≤ a.t) && decide (age - life ≤ a.t)))
/-- What is to be done. -/
def decV (l : List Fl) (o : Ob) (now e d : Int) : Int :=
  if fldsOk l = true ∧ 0 ≤ ageV o now d then
    if mayV (ctlOf l) (ageV o now d) = true ∧ (freshV o now e d = true ∨ staleV (ctlOf l) (ctlOf o.r.l) (ageV o now d) (lifeV o.r e d) = true) then 1
    else if tagOf o.r.l = true then 2 else 3
  else 0
end Go.Proofs.YtkaogmdhjcgcdaaGreatDoor
namespace Go.Proofs.YtkaogmdhjcgcdaaGreatDoor
open Go.RowKit Go.Sort
set_option linter.unusedVariables false
set_option linter.unusedSimpArgs false

theorem txt_eq9 (a b : ByteArray) : (a.toList == b.toList) = decide (a = b) := by
  by_cases h : a = b
  · subst h; simp
  · rw [decide_eq_false h]
    have : ¬ a.toList = b.toList := fun e => h (by
      have e2 : a.data.toList = b.data.toList := by simpa [ByteArray.toList_eq] using e
      cases a; cases b; simp at e2; rw [e2])
    simp [this]
theorem told_noI {x name : ByteArray} (h : x.size ≤ name.size ∨ ¬ x.extract 0 name.size = name) : told x name = (0, false) := by unfold told; rw [if_pos h]
theorem told_yesI {x name : ByteArray} (h1 : ¬ x.size ≤ name.size) (h2 : x.extract 0 name.size = name) : told x name = (minI 1000000000 (numV 10 15 (x.extract name.size x.size)), numOk 10 15 (x.extract name.size x.size)) := by
  unfold told; rw [if_neg (fun h => by rcases h with h | h; exact h1 h; exact h h2)]
set_option maxHeartbeats 1000000 in
theorem specTold (x name : ByteArray) (w : World) (hx : x.size ≤ maxLen) (hn : name.size ≤ maxLen) :
    Calls Tryz.prog 85 #[.string x, .string name] w fun e w' => e = .returned (.tuple #[.int .i64 (told x name).1, .bool (told x name).2]) ∧ Below w.heap.size w w' := by
  unfold maxLen at hx hn
  by_cases h1 : x.size ≤ name.size
  · rw [told_noI (.inl h1)]
    have d1 : decide ((x.size : Int) ≤ (name.size : Int)) = true := decide_eq_true (by omega)
    go_enter Tryz.func85, Tryz.ntmps85
    go_wp2
    go_ret2
    exact ⟨rfl, Below.refl _ _⟩
  · have d1 : decide ((x.size : Int) ≤ (name.size : Int)) = false := decide_eq_false (by omega)
    have he := txt_eq9 (x.extract 0 name.size) name
    by_cases h2 : x.extract 0 name.size = name
    · rw [told_yesI h1 h2]
      rw [decide_eq_true h2] at he
      have hd := fun W => specDig (x.extract name.size x.size) W (by unfold maxLen; simp; omega)
      unfold numE at hd
      have hm := fun W => specMin9 1000000000 (numV 10 15 (x.extract name.size x.size)) W
      generalize minI 1000000000 (numV 10 15 (x.extract name.size x.size)) = q at hm ⊢
      generalize numV 10 15 (x.extract name.size x.size) = v at hd hm
      generalize numOk 10 15 (x.extract name.size x.size) = b at hd ⊢
      have hle : name.size ≤ x.size := by omega
      clear h2
      go_enter Tryz.func85, Tryz.ntmps85
      go_wp2_with fail
      refine (hd _).mono ?_
      rintro e w1 ⟨rfl, hb1⟩
      have B1 : Hid (Below w.heap.size w w1) := hb1
      clear hb1
      go_wp2_with fail
      refine (hm _).mono ?_
      rintro e w2 ⟨rfl, rfl⟩
      go_wp2
      go_ret2
      exact ⟨rfl, B1.out⟩
    · rw [told_noI (.inr h2)]
      rw [decide_eq_false h2] at he
      have hle : name.size ≤ x.size := by omega
      go_enter Tryz.func85, Tryz.ntmps85
      go_wp2
      go_ret2
      exact ⟨rfl, Below.refl _ _⟩
end Go.Proofs.YtkaogmdhjcgcdaaGreatDoor
namespace Go.Proofs.YtkaogmdhjcgcdaaGreatDoor
open Go.RowKit Go.Sort
set_option linter.unusedVariables false
set_option linter.unusedSimpArgs false

/-- What holds in a round of ReadControl. -/
structure RdF (w : World) (g : Nat) (l : List ByteArray) (c : Ct) (x : World) : Prop where
  n : CtB x (w.heap.size + 1) c
  z : CtB x w.heap.size ctZ
  o : ∀ j (hj : j < l.length), x.cell? ⟨g, j, Option.none⟩ = some (.string l[j])
  b : Below w.heap.size w x
theorem RdF.kept {w x x' : World} {g : Nat} {l : List ByteArray} {c : Ct} (h : RdF w g l c x) (hb : Below x.heap.size x x') : RdF w g l c x' :=
  ⟨h.n.kept hb, h.z.kept hb, fun j hj => (hb.cell (p := ⟨g, j, Option.none⟩) (block_lt_of_cell (h.o j hj))).trans (h.o j hj), past9 h.b hb⟩
theorem RdF.put {w x : World} {g : Nat} {l : List ByteArray} {c : Ct} (h : RdF w g l c x) (hg : w.heap.size + 1 < g) (i : Nat) (hi : i < 7) (u : Value) (c' : Ct) (hy : ctE.c c' = (ctE.c c).set i u) : RdF w g l c' (x.setCell ⟨w.heap.size + 1, i, Option.none⟩ u) :=
  ⟨h.n.put hi u c' hy, h.z.other _ u (by show w.heap.size ≠ w.heap.size + 1; omega), fun j hj => by
    rw [World.cell?_setCell_other _ _ _ _ (by simp <;> omega)]
    exact h.o j hj, h.b.setCell (p := ⟨w.heap.size + 1, i, Option.none⟩) (by show w.heap.size ≤ w.heap.size + 1; omega) u⟩
theorem wdT_eq (x : ByteArray) : (x.toList == [109, 97, 120, 45, 115, 116, 97, 108, 101]) = decide (x = wdT) := by
  have h : wdT.toList = [109, 97, 120, 45, 115, 116, 97, 108, 101] := by unfold wdT; rw [ByteArray.toList_eq]
  rw [← h]; exact txt_eq9 x wdT
theorem wdS_eq (x : ByteArray) : (x.toList == [110, 111, 45, 115, 116, 111, 114, 101]) = decide (x = wdS) := by
  have h : wdS.toList = [110, 111, 45, 115, 116, 111, 114, 101] := by unfold wdS; rw [ByteArray.toList_eq]
  rw [← h]; exact txt_eq9 x wdS
theorem wdC_eq (x : ByteArray) : (x.toList == [110, 111, 45, 99, 97, 99, 104, 101]) = decide (x = wdC) := by
  have h : wdC.toList = [110, 111, 45, 99, 97, 99, 104, 101] := by unfold wdC; rw [ByteArray.toList_eq]
  rw [← h]; exact txt_eq9 x wdC
theorem wdP_eq (x : ByteArray) : (x.toList == [112, 114, 105, 118, 97, 116, 101]) = decide (x = wdP) := by
  have h : wdP.toList = [112, 114, 105, 118, 97, 116, 101] := by unfold wdP; rw [ByteArray.toList_eq]
  rw [← h]; exact txt_eq9 x wdP
theorem wdM_eq (x : ByteArray) : (x.toList == [109, 117, 115, 116, 45, 114, 101, 118, 97, 108, 105, 100, 97, 116, 101]) = decide (x = wdM) := by
  have h : wdM.toList = [109, 117, 115, 116, 45, 114, 101, 118, 97, 108, 105, 100, 97, 116, 101] := by unfold wdM; rw [ByteArray.toList_eq]
  rw [← h]; exact txt_eq9 x wdM
theorem low_size9 (s : ByteArray) : (lowS s).size = s.size := by
  show (lowS s).data.size = s.data.size
  unfold lowS
  simp
set_option maxRecDepth 100000 in
set_option maxRecDepth 100000 in
set_option maxHeartbeats 4000000 in
theorem specRdC (s : ByteArray) (w : World) (hs : s.size ≤ maxLen) (hzs : ∀ x ∈ itemsA s, x.size ≤ 400) :
    Calls Tryz.prog 32 #[.string s] w fun e w' => e = .returned (ctV (rdCt s)) ∧ Below w.heap.size w w' := by
  have hit := fun W => specItems s W hs
  have hlen := itemsA_length s
  have HD : Hid (rdCt s = rdLt (itemsA s)) := rfl
  have Z0 : Hid (CtB ((w.alloc (.cells #[.int .i64 0, .int .i64 0, .int .i64 0, .bool false, .bool false, .bool false, .bool false] 50)).alloc (.cells #[.int .i64 (-1), .int .i64 (-1), .int .i64 (-1), .bool false, .bool false, .bool false, .bool false] 50)) w.heap.size ctZ) := (CtB.born w ctZ 50).alloc _
  have N0 : Hid (CtB ((w.alloc (.cells #[.int .i64 0, .int .i64 0, .int .i64 0, .bool false, .bool false, .bool false, .bool false] 50)).alloc (.cells #[.int .i64 (-1), .int .i64 (-1), .int .i64 (-1), .bool false, .bool false, .bool false, .bool false] 50)) (w.heap.size + 1) ctN) := by
    have := CtB.born (w.alloc (.cells #[.int .i64 0, .int .i64 0, .int .i64 0, .bool false, .bool false, .bool false, .bool false] 50)) ctN 50
    simp only [World.size_alloc] at this
    exact this
  have B0 : Hid (Below w.heap.size w ((w.alloc (.cells #[.int .i64 0, .int .i64 0, .int .i64 0, .bool false, .bool false, .bool false, .bool false] 50)).alloc (.cells #[.int .i64 (-1), .int .i64 (-1), .int .i64 (-1), .bool false, .bool false, .bool false, .bool false] 50))) := ((Below.refl _ w).alloc (by simp <;> omega) _).alloc (by simp <;> omega) _
  generalize rdCt s = R at HD ⊢
  generalize itemsA s = l at hit hlen hzs HD
  go_enter Tryz.func32, Tryz.ntmps32
  go_wp2_with fail
  refine (hit _).mono ?_
  rintro e w1 ⟨v, rfl, ho, hb1⟩
  have ho' := ho
  obtain ⟨⟨g, cap, rfl, hg0, hg1⟩, _⟩ := ho
  have O1 : Hid (∀ j (hj : j < l.length), w1.cell? ⟨g, j, Option.none⟩ = some (.string l[j])) := ho'.at rfl
  have Z1 : Hid (CtB w1 w.heap.size ctZ) := Z0.out.kept hb1
  have N1 : Hid (CtB w1 (w.heap.size + 1) ctN) := N0.out.kept hb1
  have B1 : Hid (Below w.heap.size w w1) := past9 B0.out hb1
  simp only [World.size_alloc] at hg0
  clear hb1 ho' hit Z0 N0 B0 hg1
  go_wp2
  have H1 : Hid (RdF w g l ctN w1) := ⟨N1.out, Z1.out, O1.out, B1.out⟩
  clear Z1 N1 O1 B1
  go_loopw [5, 6, 7, 8, 9, 10, 11, 12] (fun i _ _ _ _ _ _ _ wr => ∃ (k : Nat), k ≤ l.length ∧ i = .int .i64 k ∧ Hid (RdF w g l (rdLt (l.take k)) wr)) (fun i _ _ _ _ _ _ _ _ => l.length - (intOf i).toNat)
  case atStart => exact ⟨0, Nat.zero_le _, rfl, H1⟩
  case round =>
    obtain ⟨k, hk, rfl, hF⟩ := hrel
    by_cases hlt : k < l.length
    · have hc := hF.out.o k hlt
      have hst : Hid (rdLt (l.take (k + 1)) = stp (rdLt (l.take k)) (lowS l[k])) := by
        show _ = _
        rw [List.take_add_one, List.getElem?_eq_getElem hlt]
        exact rdL_snoc (l.take k) l[k]
      have hz := hzs l[k] (List.getElem_mem hlt)
      have hlo := fun W => specLow l[k] W (by unfold maxLen; omega)
      have hxs := low_size9 l[k]
      generalize l[k] = t at hc hst hz hlo hxs
      generalize lowS t = x at hst hlo hxs
      generalize rdLt (l.take k) = c at hF hst
      have q1 := fun W => specTold x nmA W (by unfold maxLen; omega) (by decide)
      have q2 := fun W => specTold x nmS W (by unfold maxLen; omega) (by decide)
      have q3 := fun W => specTold x nmT W (by unfold maxLen; omega) (by decide)
      have s1 : ∀ c : Ct, st1 c x = if (told x nmA).2 = true ∧ c.a < 0 then { c with a := (told x nmA).1 } else c := fun _ => rfl
      have s2 : ∀ c : Ct, st2 c x = if (told x nmS).2 = true ∧ c.s < 0 then { c with s := (told x nmS).1 } else c := fun _ => rfl
      have s3 : ∀ c : Ct, st3 c x = if (told x nmT).2 = true ∧ c.t < 0 then { c with t := (told x nmT).1 } else c := fun _ => rfl
      generalize (told x nmA).1 = n1 at q1 s1
      generalize (told x nmA).2 = b1 at q1 s1
      unfold nmA at q1
      generalize (told x nmS).1 = n2 at q2 s2
      generalize (told x nmS).2 = b2 at q2 s2
      unfold nmS at q2
      generalize (told x nmT).1 = n3 at q3 s3
      generalize (told x nmT).2 = b3 at q3 s3
      unfold nmT at q3
      have hst3 : Hid (rdLt (l.take (k + 1)) = st4 (st3 (st2 (st1 c x) x) x) x) := hst
      have hgw : w.heap.size + 1 < g := by omega
      have y1 : Hid _ := wdT_eq x
      have y2 : Hid _ := wdS_eq x
      have y3 : Hid _ := wdC_eq x
      have y4 : Hid _ := wdP_eq x
      have y5 : Hid _ := wdM_eq x
      clear hst
      go_wp2_with fail
      refine (hlo _).mono ?_
      rintro e w2 ⟨rfl, hb2⟩
      have F0 : Hid (RdF w g l c w2) := hF.out.kept hb2
      clear hb2 hF hc hlo hxs hz
      go_wp2_with fail
      refine (q1 _).mono ?_
      rintro e v0 ⟨rfl, hb3⟩
      have G0 : Hid (RdF w g l c v0) := F0.out.kept hb3
      clear hb3 F0 q1
      obtain ⟨e0, e1, e2, e3, e4, e5, e6⟩ := G0.out.n.all
      have ef := G0.out.n.fz
      go_upto_region 8 with fail
      go_cut [37] (fun q wx => q = .bool (b1 && decide (c.a < 0)) ∧ wx = v0)
      case first =>
        cases b1
        all_goals (go_wp2_with fail)
        all_goals go_meet
        all_goals exact ⟨rfl, rfl⟩
      case rest =>
        obtain ⟨rfl, rfl⟩ := hcut
        obtain ⟨x0, rfl⟩ : ∃ z, z = wc := ⟨wc, rfl⟩
        go_upto_if 37 with fail
        go_cut [7] (fun q wx => q = .int .i64 n1 ∧ Hid (RdF w g l (st1 c x) wx))
        case first =>
          by_cases hcc : b1 = true ∧ c.a < 0
          · obtain ⟨rfl, hca⟩ := hcc
            have HP : Hid (RdF w g l (st1 c x) (x0.setCell ⟨w.heap.size + 1, 0, Option.none⟩ (.int .i64 n1))) := by
              rw [s1, if_pos ⟨rfl, hca⟩]
              exact G0.out.put hgw 0 (by decide) _ _ rfl
            have hd : (true && decide (c.a < 0)) = true := by rw [decide_eq_true hca]; rfl
            rw [hd]
            clear hd
            go_wp2_with fail
            go_meet
            exact ⟨rfl, HP⟩
          · have HP : Hid (RdF w g l (st1 c x) x0) := by
              rw [s1, if_neg hcc]
              exact G0.out
            have hd : (b1 && decide (c.a < 0)) = false := by
              cases hb9 : b1 && decide (c.a < 0) with
              | false => rfl
              | true =>
                rw [Bool.and_eq_true, decide_eq_true_iff] at hb9
                exact absurd hb9 hcc
            go_wp2_with fail
            go_meet
            exact ⟨rfl, HP⟩
        case rest =>
          obtain ⟨rfl, F1⟩ := hcut
          obtain ⟨z0, rfl⟩ : ∃ z, z = wc := ⟨wc, rfl⟩
          clear G0 e0 e1 e2 e3 e4 e5 e6 ef
          generalize st1 c x = c1 at F1 hst3
          go_wp2_with fail
          refine (q2 _).mono ?_
          rintro e v1 ⟨rfl, hb3⟩
          have G1 : Hid (RdF w g l c1 v1) := F1.out.kept hb3
          clear hb3 F1 q2
          obtain ⟨e0, e1, e2, e3, e4, e5, e6⟩ := G1.out.n.all
          have ef := G1.out.n.fz
          go_upto_region 11 with fail
          go_cut [50] (fun q wx => q = .bool (b2 && decide (c1.s < 0)) ∧ wx = v1)
          case first =>
            cases b2
            all_goals (go_wp2_with fail)
            all_goals go_meet
            all_goals exact ⟨rfl, rfl⟩
          case rest =>
            obtain ⟨rfl, rfl⟩ := hcut
            obtain ⟨x1, rfl⟩ : ∃ z, z = wc := ⟨wc, rfl⟩
            go_upto_if 50 with fail
            go_cut [9] (fun q wx => q = .int .i64 n2 ∧ Hid (RdF w g l (st2 c1 x) wx))
            case first =>
              by_cases hcc : b2 = true ∧ c1.s < 0
              · obtain ⟨rfl, hca⟩ := hcc
                have HP : Hid (RdF w g l (st2 c1 x) (x1.setCell ⟨w.heap.size + 1, 1, Option.none⟩ (.int .i64 n2))) := by
                  rw [s2, if_pos ⟨rfl, hca⟩]
                  exact G1.out.put hgw 1 (by decide) _ _ rfl
                have hd : (true && decide (c1.s < 0)) = true := by rw [decide_eq_true hca]; rfl
                rw [hd]
                clear hd
                go_wp2_with fail
                go_meet
                exact ⟨rfl, HP⟩
              · have HP : Hid (RdF w g l (st2 c1 x) x1) := by
                  rw [s2, if_neg hcc]
                  exact G1.out
                have hd : (b2 && decide (c1.s < 0)) = false := by
                  cases hb9 : b2 && decide (c1.s < 0) with
                  | false => rfl
                  | true =>
                    rw [Bool.and_eq_true, decide_eq_true_iff] at hb9
                    exact absurd hb9 hcc
                go_wp2_with fail
                go_meet
                exact ⟨rfl, HP⟩
            case rest =>
              obtain ⟨rfl, F2⟩ := hcut
              obtain ⟨z1, rfl⟩ : ∃ z, z = wc := ⟨wc, rfl⟩
              clear G1 e0 e1 e2 e3 e4 e5 e6 ef
              generalize st2 c1 x = c2 at F2 hst3
              go_wp2_with fail
              refine (q3 _).mono ?_
              rintro e v2 ⟨rfl, hb3⟩
              have G2 : Hid (RdF w g l c2 v2) := F2.out.kept hb3
              clear hb3 F2 q3
              obtain ⟨e0, e1, e2, e3, e4, e5, e6⟩ := G2.out.n.all
              have ef := G2.out.n.fz
              go_upto_region 14 with fail
              go_cut [63] (fun q wx => q = .bool (b3 && decide (c2.t < 0)) ∧ wx = v2)
              case first =>
                cases b3
                all_goals (go_wp2_with fail)
                all_goals go_meet
                all_goals exact ⟨rfl, rfl⟩
              case rest =>
                obtain ⟨rfl, rfl⟩ := hcut
                obtain ⟨x2, rfl⟩ : ∃ z, z = wc := ⟨wc, rfl⟩
                go_upto_if 63 with fail
                go_cut [11] (fun q wx => q = .int .i64 n3 ∧ Hid (RdF w g l (st3 c2 x) wx))
                case first =>
                  by_cases hcc : b3 = true ∧ c2.t < 0
                  · obtain ⟨rfl, hca⟩ := hcc
                    have HP : Hid (RdF w g l (st3 c2 x) (x2.setCell ⟨w.heap.size + 1, 2, Option.none⟩ (.int .i64 n3))) := by
                      rw [s3, if_pos ⟨rfl, hca⟩]
                      exact G2.out.put hgw 2 (by decide) _ _ rfl
                    have hd : (true && decide (c2.t < 0)) = true := by rw [decide_eq_true hca]; rfl
                    rw [hd]
                    clear hd
                    go_wp2_with fail
                    go_meet
                    exact ⟨rfl, HP⟩
                  · have HP : Hid (RdF w g l (st3 c2 x) x2) := by
                      rw [s3, if_neg hcc]
                      exact G2.out
                    have hd : (b3 && decide (c2.t < 0)) = false := by
                      cases hb9 : b3 && decide (c2.t < 0) with
                      | false => rfl
                      | true =>
                        rw [Bool.and_eq_true, decide_eq_true_iff] at hb9
                        exact absurd hb9 hcc
                    go_wp2_with fail
                    go_meet
                    exact ⟨rfl, HP⟩
                case rest =>
                  obtain ⟨rfl, F3⟩ := hcut
                  obtain ⟨z2, rfl⟩ : ∃ z, z = wc := ⟨wc, rfl⟩
                  clear G2 e0 e1 e2 e3 e4 e5 e6 ef
                  generalize st3 c2 x = c3 at F3 hst3
                  obtain ⟨e0, e1, e2, e3, e4, e5, e6⟩ := F3.out.n.all
                  have ef := F3.out.n.fz
                  have i1 := y1.out
                  have i2 := y2.out
                  have i3 := y3.out
                  have i4 := y4.out
                  have i5 := y5.out
                  unfold st4 at hst3
                  by_cases h0 : x = wdT
                  · rw [decide_eq_true h0] at i1
                    by_cases hca : c3.t < 0
                    · have HC : Hid (rdLt (l.take (k + 1)) = { c3 with t := 1000000000 }) := by
                        have := hst3.out; rw [if_pos h0, if_pos hca] at this; exact this
                      have HP := F3.out.put hgw 2 (by decide) (.int .i64 1000000000) { c3 with t := 1000000000 } rfl
                      have HP : Hid _ := HP
                      have hd : decide (c3.t < 0) = true := decide_eq_true hca
                      clear F3 hst3 h0
                      go_wp2
                      go_roundw
                      case rel => exact ⟨k + 1, by omega, by go_num, by rw [HC.out]; exact HP⟩
                      case measure => simp [intOf]; omega
                    · have HC : Hid (rdLt (l.take (k + 1)) = c3) := by
                        have := hst3.out; rw [if_pos h0, if_neg hca] at this; exact this
                      have HP : Hid _ := F3.out
                      have hd : decide (c3.t < 0) = false := decide_eq_false hca
                      clear F3 hst3 h0
                      go_wp2
                      go_roundw
                      case rel => exact ⟨k + 1, by omega, by go_num, by rw [HC.out]; exact HP⟩
                      case measure => simp [intOf]; omega
                  rw [decide_eq_false h0] at i1
                  by_cases h1 : x = wdS
                  · rw [decide_eq_true h1] at i2
                    have HC : Hid (rdLt (l.take (k + 1)) = { c3 with ns := true }) := by
                      have := hst3.out; rw [if_neg h0, if_pos h1] at this; exact this
                    have HP := F3.out.put hgw 3 (by decide) (.bool true) { c3 with ns := true } rfl
                    have HP : Hid _ := HP
                    clear F3 hst3 h1
                    go_wp2
                    go_roundw
                    case rel => exact ⟨k + 1, by omega, by go_num, by rw [HC.out]; exact HP⟩
                    case measure => simp [intOf]; omega
                  rw [decide_eq_false h1] at i2
                  by_cases h2 : x = wdC
                  · rw [decide_eq_true h2] at i3
                    have HC : Hid (rdLt (l.take (k + 1)) = { c3 with nc := true }) := by
                      have := hst3.out; rw [if_neg h0, if_neg h1, if_pos h2] at this; exact this
                    have HP := F3.out.put hgw 4 (by decide) (.bool true) { c3 with nc := true } rfl
                    have HP : Hid _ := HP
                    clear F3 hst3 h2
                    go_wp2
                    go_roundw
                    case rel => exact ⟨k + 1, by omega, by go_num, by rw [HC.out]; exact HP⟩
                    case measure => simp [intOf]; omega
                  rw [decide_eq_false h2] at i3
                  by_cases h3 : x = wdP
                  · rw [decide_eq_true h3] at i4
                    have HC : Hid (rdLt (l.take (k + 1)) = { c3 with pr := true }) := by
                      have := hst3.out; rw [if_neg h0, if_neg h1, if_neg h2, if_pos h3] at this; exact this
                    have HP := F3.out.put hgw 5 (by decide) (.bool true) { c3 with pr := true } rfl
                    have HP : Hid _ := HP
                    clear F3 hst3 h3
                    go_wp2
                    go_roundw
                    case rel => exact ⟨k + 1, by omega, by go_num, by rw [HC.out]; exact HP⟩
                    case measure => simp [intOf]; omega
                  rw [decide_eq_false h3] at i4
                  by_cases h4 : x = wdM
                  · rw [decide_eq_true h4] at i5
                    have HC : Hid (rdLt (l.take (k + 1)) = { c3 with mu := true }) := by
                      have := hst3.out; rw [if_neg h0, if_neg h1, if_neg h2, if_neg h3, if_pos h4] at this; exact this
                    have HP := F3.out.put hgw 6 (by decide) (.bool true) { c3 with mu := true } rfl
                    have HP : Hid _ := HP
                    clear F3 hst3 h4
                    go_wp2
                    go_roundw
                    case rel => exact ⟨k + 1, by omega, by go_num, by rw [HC.out]; exact HP⟩
                    case measure => simp [intOf]; omega
                  rw [decide_eq_false h4] at i5
                  have HC : Hid (rdLt (l.take (k + 1)) = c3) := by
                    have := hst3.out; rw [if_neg h0, if_neg h1, if_neg h2, if_neg h3, if_neg h4] at this; exact this
                  have HP : Hid _ := F3.out
                  clear F3 hst3
                  go_wp2
                  go_roundw
                  case rel => exact ⟨k + 1, by omega, by go_num, by rw [HC.out]; exact HP⟩
                  case measure => simp [intOf]; omega
    · have hkl : k = l.length := by omega
      have HE : Hid (R = rdLt (l.take k)) := by show _ = _; rw [HD.out, hkl, List.take_length]
      generalize rdLt (l.take k) = c at hF HE
      obtain ⟨e0, e1, e2, e3, e4, e5, e6⟩ := hF.out.n.all
      obtain ⟨z0, z1, z2, z3, z4, z5, z6⟩ := hF.out.z.all
      have zf := hF.out.z.fz
      have HP : Hid (CtB (putL wr w.heap.size (ctE.c c) 0) w.heap.size c) := hF.out.z.puts c
      have BP : Hid (Below w.heap.size w (putL wr w.heap.size (ctE.c c) 0)) := putL_below (Nat.le_refl _) (ctE.c c) 0 hF.out.b
      unfold ctZ at z0 z1 z2 z3 z4 z5 z6
      simp only at z0 z1 z2 z3 z4 z5 z6
      clear hF hkl
      go_wp2
      obtain ⟨p0, p1, p2, p3, p4, p5, p6⟩ := CtB.all HP.out
      have bp := BP.out
      rw [ctE_c] at p0 p1 p2 p3 p4 p5 p6 bp
      simp only [putL, Nat.zero_add, Nat.reduceAdd] at p0 p1 p2 p3 p4 p5 p6 bp
      refine bodyPost_ret (v := ctV c) (by unfold ctV; simp [results, Tryz.results32, go_sem, p0, p1, p2, p3, p4, p5, p6]) rfl ⟨by rw [HE.out], bp⟩
end Go.Proofs.YtkaogmdhjcgcdaaGreatDoor
namespace Go.Proofs.YtkaogmdhjcgcdaaGreatDoor
open Go.RowKit
set_option linter.unusedVariables false

theorem past7 {w w1 w2 : World} (h : Below w.heap.size w w1) (hb : Below w1.heap.size w1 w2) : Below w.heap.size w w2 := h.trans (hb.mono h.size)
/-- A tag in a block. -/
structure TgB (w : World) (b : Nat) (x : Tg) : Prop where
  c0 : w.cell? ⟨b, 0, none⟩ = some (.bool x.w)
  c1 : w.cell? ⟨b, 1, none⟩ = some (.string x.t)
  fz : ∀ k, w.frozen? ⟨b, k, none⟩ = false
  hi : b < w.heap.size
theorem TgB.new (w : World) (x : Tg) (t : TypeId) : TgB (w.alloc (.cells #[.bool x.w, .string x.t] t)) w.heap.size x where
  c0 := World.cell?_alloc_mark _ _ _ _ _
  c1 := World.cell?_alloc_mark _ _ _ _ _
  fz := fun k => by rw [World.frozen?_alloc_mark]; simp
  hi := by simp
theorem TgB.kept {w w' : World} {b : Nat} {x : Tg} (h : TgB w b x) (hb : Below w.heap.size w w') : TgB w' b x := by
  have e : w'.heap[b]? = w.heap[b]? := hb.block b h.hi
  have k : ∀ k, w'.cell? ⟨b, k, none⟩ = w.cell? ⟨b, k, none⟩ := fun k => World.cell?_of_block (a := ⟨b, k, none⟩) e
  exact ⟨(k 0).trans h.c0, (k 1).trans h.c1, fun j => (World.frozen?_of_block (a := ⟨b, j, none⟩) e).trans (h.fz j), Nat.lt_of_lt_of_le h.hi hb.size⟩
theorem TgB.alloc {w : World} {b : Nat} {x : Tg} (h : TgB w b x) (o : Obj) : TgB (w.alloc o) b x := h.kept ((Below.refl _ w).alloc (Nat.le_refl _) o)

set_option maxHeartbeats 400000 in
theorem specTag (x : Tg) (w : World) (hs : x.t.size ≤ maxLen) :
    Calls Tryz.prog 166 #[tgV x] w fun e w' => e = .returned (.bool (tagB x.t)) ∧ Below w.heap.size w w' := by
  obtain ⟨wk, s⟩ := x
  unfold tgV
  simp only at hs ⊢
  unfold maxLen at hs
  have hb0 := (Below.refl _ w).alloc (Nat.le_refl _) (.cells #[.bool wk, .string s] 131)
  have B0 : Hid (Below w.heap.size w _) := hb0
  clear hb0
  by_cases h2 : 40 < s.size
  · have HF : Hid (false = tagB s) := tagB_out h2
    have d2 : decide (40 < (s.size : Int)) = true := by simp; omega
    go_enter Tryz.func166, Tryz.ntmps166
    go_wp2
    go_ret
    exact ⟨ret_bool HF.out, B0.out⟩
  · have d2 : decide (40 < (s.size : Int)) = false := by simp; omega
    go_enter Tryz.func166, Tryz.ntmps166
    go_wp2
    go_loop [3] (fun i => ∃ k : Nat, k ≤ s.size ∧ i = .int .i64 k ∧ Hid (allB tagN (s.data.toList.take k) = true)) (fun i => s.size - (intOf i).toNat)
    case atStart => exact ⟨0, Nat.zero_le _, rfl, allB_nil _ _⟩
    case round =>
      obtain ⟨k, hk, rfl, ha⟩ := hrel
      by_cases hlt : k < s.size
      · by_cases hl : (s[k].toNat : Int) < 33
        · have HF : Hid (false = tagB s) := tagB_in (by omega) (allB_not hlt (tagN_no (by omega)))
          go_wp2
          go_ret
          exact ⟨ret_bool HF.out, B0.out⟩
        · by_cases hg : 126 < (s[k].toNat : Int)
          · have HF : Hid (false = tagB s) := tagB_in (by omega) (allB_not hlt (tagN_no (by omega)))
            go_wp2
            go_ret
            exact ⟨ret_bool HF.out, B0.out⟩
          · by_cases hq : (s[k].toNat : Int) = 34
            · have HF : Hid (false = tagB s) := tagB_in (by omega) (allB_not hlt (tagN_no (by omega)))
              have dq : ((s[k].toNat : Int) == 34) = true := by rw [hq]; rfl
              clear hq
              go_wp2
              go_ret
              exact ⟨ret_bool HF.out, B0.out⟩
            · have HV : Hid (allB tagN (s.data.toList.take (k + 1)) = true) := allB_step hlt ha.out (tagN_yes (by omega))
              have dq : ((s[k].toNat : Int) == 34) = false := by simpa using hq
              go_wp2
              go_round
              case rel => exact ⟨k + 1, by omega, by go_num, HV⟩
              case measure => simp [intOf]; omega
      · have HT : Hid (true = tagB s) := tagB_in (by omega) (allB_end hlt ha.out)
        go_wp2
        go_ret
        exact ⟨ret_bool HT.out, B0.out⟩
theorem ret_txt {a b : ByteArray} (h : a = b) : Ending.returned (.string a) = .returned (.string b) := by rw [h]
theorem l7Show (x : Tg) (w : World) (hs : x.t.size ≤ 40) :
    Calls Tryz.prog 167 #[tgV x] w fun e w' => e = .returned (.string (shU x)) ∧ Below w.heap.size w w' := by
  obtain ⟨wk, s⟩ := x
  unfold tgV
  simp only at hs ⊢
  have B0 : Hid (Below w.heap.size w (w.alloc (.cells #[.bool wk, .string s] 131))) := (Below.refl _ w).alloc (Nat.le_refl _) _
  have z1 : ((⟨#[34]⟩ : ByteArray) ++ s).size = 1 + s.size := by rw [ByteArray.size_append]; rfl
  have z2 : ((⟨#[34]⟩ : ByteArray) ++ s ++ (⟨#[34]⟩ : ByteArray)).size = 1 + s.size + 1 := by rw [ByteArray.size_append, z1]; rfl
  cases wk with
  | false =>
    have HT : Hid ((⟨#[34]⟩ : ByteArray) ++ s ++ (⟨#[34]⟩ : ByteArray) = shU ⟨false, s⟩) := rfl
    go_enter Tryz.func167, Tryz.ntmps167
    go_wp2
    go_ret
    exact ⟨ret_txt HT.out, B0.out⟩
  | true =>
    have HT : Hid ((⟨#[87, 47]⟩ : ByteArray) ++ ((⟨#[34]⟩ : ByteArray) ++ s ++ (⟨#[34]⟩ : ByteArray)) = shU ⟨true, s⟩) := rfl
    go_enter Tryz.func167, Tryz.ntmps167
    go_wp2
    go_ret
    exact ⟨ret_txt HT.out, B0.out⟩
theorem specSh (x : Tg) (w : World) (hs : x.t.size ≤ maxLen) :
    Calls Tryz.prog 134 #[tgV x] w fun e w' => e = .returned (.string (shT x)) ∧ Below w.heap.size w w' := by
  have hk := fun W => specTag x W hs
  have hu := fun W h => l7Show x W h
  have hy := @shT_yes x
  have hn := @shT_no x
  have hz := @tagB_size x.t
  have T0 := TgB.new w x 131
  have B0 : Hid (Below w.heap.size w (w.alloc (.cells #[.bool x.w, .string x.t] 131))) := (Below.refl _ w).alloc (Nat.le_refl _) _
  unfold tgV at hk hu ⊢
  generalize shT x = A at hy hn ⊢
  generalize shU x = U at hy hu
  generalize tagB x.t = ok at hk hy hn hz
  obtain ⟨wk, s⟩ := x
  simp only at *
  have T0 : Hid (TgB _ w.heap.size ⟨wk, s⟩) := T0
  go_enter Tryz.func134, Tryz.ntmps134
  go_wp2_with fail
  refine (hk _).mono ?_
  rintro e w1 ⟨rfl, hb1⟩
  have B1 : Hid (Below w.heap.size w w1) := past7 B0.out hb1
  have T1 : Hid (TgB w1 w.heap.size ⟨wk, s⟩) := T0.out.kept hb1
  clear hb1 B0 T0 hk
  cases ok with
  | false =>
    have HA : Hid (⟨#[]⟩ = A) := (hn rfl).symm
    clear hn hy hz
    go_wp2
    go_ret
    exact ⟨ret_txt HA.out, B1.out⟩
  | true =>
    have HA : Hid (U = A) := (hy rfl).symm
    have hu' := fun W => hu W (hz rfl)
    have c0 := T1.out.c0
    have c1 := T1.out.c1
    clear hn hy hz hu
    go_wp2_with (go_at_call 167; refine (hu' _).mono ?_; rintro e w2 ⟨rfl, hb2⟩)
    go_ret
    exact ⟨ret_txt HA.out, past7 B1.out hb2⟩
end Go.Proofs.YtkaogmdhjcgcdaaGreatDoor
namespace Go.Proofs.YtkaogmdhjcgcdaaGreatDoor
open Go.RowKit
set_option linter.unusedVariables false

theorem txt_eq (a b : ByteArray) : (a.toList == b.toList) = decide (a = b) := by
  by_cases h : a = b
  · subst h; simp
  · rw [decide_eq_false h]
    have : ¬ a.toList = b.toList := fun e => h (by
      have e2 : a.data.toList = b.data.toList := by simpa [ByteArray.toList_eq] using e
      exact data_ext e2)
    simp [this]
theorem tsame {a b : ByteArray} (h : a = b) : (a.toList == b.toList) = true := by rw [txt_eq]; simp [h]
theorem tdiff {a b : ByteArray} (h : ¬ a = b) : (a.toList == b.toList) = false := by rw [txt_eq]; simp [h]
theorem ret_rd {o : Option Tg} {v : Value} (h : v = rdV o) : Ending.returned v = .returned (rdV o) := by rw [h]

theorem wq_list : (⟨#[87, 47]⟩ : ByteArray).toList = [87, 47] := by rw [ByteArray.toList_eq]
theorem TgB.put {w : World} {b : Nat} {y : Tg} (h : TgB w b y) (x : Tg) : TgB ((w.setCell ⟨b, 0, none⟩ (.bool x.w)).setCell ⟨b, 1, none⟩ (.string x.t)) b x where
  c0 := by rw [World.cell?_setCell_other _ _ _ _ (by simp)]; exact World.cell?_setCell_same _ _ _ h.c0
  c1 := World.cell?_setCell_same _ _ _ (by rw [World.cell?_setCell_other _ _ _ _ (by simp)]; exact h.c1)
  fz := fun k => by rw [World.frozen?_setCell, World.frozen?_setCell]; exact h.fz k
  hi := by rw [World.size_setCell, World.size_setCell]; exact h.hi
theorem rdT_plain {s : ByteArray} (hk : wkB s = false) : rdT s = if 2 ≤ s.size ∧ shT ⟨false, s.extract 1 (s.size - 1)⟩ = s then some ⟨false, s.extract 1 (s.size - 1)⟩ else none := by
  have hc : rdC s = ⟨false, s.extract 1 (s.size - 1)⟩ := by unfold rdC; rw [if_neg (by rw [hk]; decide)]
  have hz : rdZ s = s.size := by unfold rdZ; rw [if_neg (by rw [hk]; decide)]
  unfold rdT
  rw [hc, hz]
set_option maxHeartbeats 1000000 in
theorem specRd (s : ByteArray) (w : World) (hs : s.size ≤ maxLen) :
    Calls Tryz.prog 106 #[.string s] w fun e w' => e = .returned (rdV (rdT s)) ∧ Below w.heap.size w w' := by
  unfold maxLen at hs
  by_cases h2 : 2 < s.size
  · have d2 : decide (2 < (s.size : Int)) = true := by simp; omega
    by_cases hw : s.extract 0 2 = ⟨#[87, 47]⟩
    · have dw := tsame hw
      rw [wq_list] at dw
      have hk : wkB s = true := by unfold wkB; rw [decide_eq_true h2, decide_eq_true hw]; rfl
      have hc : rdC s = ⟨true, (s.extract 2 s.size).extract 1 (s.size - 3)⟩ := by unfold rdC; rw [if_pos hk]
      have hz : rdZ s = s.size - 2 := by unfold rdZ; rw [if_pos hk]
      have hr : rdT s = if 2 ≤ s.size - 2 ∧ shT ⟨true, (s.extract 2 s.size).extract 1 (s.size - 3)⟩ = s then some ⟨true, (s.extract 2 s.size).extract 1 (s.size - 3)⟩ else none := by unfold rdT; rw [hc, hz]
      have HR : Hid (rdT s = _) := hr
      generalize rdT s = R at HR ⊢
      clear hw hk hc hz hr
      by_cases h4 : s.size < 4
      · have HN : Hid (R = none) := by rw [HR.out]; exact if_neg (by omega)
        clear HR
        go_enter Tryz.func106, Tryz.ntmps106
        go_wp2
        refine bodyPost_ret (v := .tuple #[.agg #[.bool false, .string ⟨#[]⟩], .bool false]) (by simp [results, Tryz.results106, go_sem]) rfl ⟨ret_rd (by rw [HN.out]; rfl), ?_⟩
        repeat (first | exact Below.refl _ _ | refine Below.alloc ?_ (by simp <;> omega) _ | refine Below.setCell ?_ (by simp <;> omega) _)
      · 
        have hsh := fun W => specSh ⟨true, (s.extract 2 s.size).extract 1 (s.size - 3)⟩ W (by unfold maxLen; simp; omega)
        unfold tgV at hsh
        simp only at hsh
        by_cases he : shT ⟨true, (s.extract 2 s.size).extract 1 (s.size - 3)⟩ = s
        · have HN : Hid (R = some ⟨true, (s.extract 2 s.size).extract 1 (s.size - 3)⟩) := by rw [HR.out]; exact if_pos ⟨by omega, he⟩
          have dn := tsame he
          generalize shT ⟨true, (s.extract 2 s.size).extract 1 (s.size - 3)⟩ = U at hsh dn
          clear he HR
          go_enter Tryz.func106, Tryz.ntmps106
          go_wp2_with fail
          refine (hsh _).mono ?_
          rintro e w1 ⟨rfl, hb1⟩
          have T1 : Hid (TgB w1 (w.heap.size + 1) ⟨true, (s.extract 2 s.size).extract 1 (s.size - 3)⟩) := by
            have := TgB.new (w.alloc (.cells #[.bool false, .string ⟨#[]⟩] 131)) ⟨true, (s.extract 2 s.size).extract 1 (s.size - 3)⟩ 131
            simp only [World.size_alloc] at this
            exact this.kept hb1
          have T0 : Hid (TgB w1 w.heap.size noT) := ((TgB.new w noT 131).alloc _).kept hb1
          have B1 : Hid (Below w.heap.size w w1) := by
            refine past7 ?_ hb1
            repeat (first | exact Below.refl _ _ | refine Below.alloc ?_ (by simp <;> omega) _ | refine Below.setCell ?_ (by simp <;> omega) _)
          have P1 : Hid (TgB _ w.heap.size ⟨true, (s.extract 2 s.size).extract 1 (s.size - 3)⟩) := T0.out.put ⟨true, (s.extract 2 s.size).extract 1 (s.size - 3)⟩
          have B2 : Hid (Below w.heap.size w _) := (B1.out.setCell (p := ⟨w.heap.size, 0, none⟩) (Nat.le_refl _) (.bool (⟨true, (s.extract 2 s.size).extract 1 (s.size - 3)⟩ : Tg).w)).setCell (p := ⟨w.heap.size, 1, none⟩) (Nat.le_refl _) (.string (⟨true, (s.extract 2 s.size).extract 1 (s.size - 3)⟩ : Tg).t)
          have c0 := T1.out.c0
          have c1 := T1.out.c1
          have b0 := T0.out.c0
          have b1 := T0.out.c1
          have fz := T0.out.fz
          clear hb1
          go_wp2
          have p0 := P1.out.c0
          have p1 := P1.out.c1
          have BB := B2.out
          simp only at p0 p1 BB
          refine bodyPost_ret (v := .tuple #[.agg #[.bool true, .string ((s.extract 2 s.size).extract 1 (s.size - 3))], .bool true]) (by simp [results, Tryz.results106, go_sem, p0, p1]) rfl ⟨ret_rd (by rw [HN.out]; rfl), BB⟩
        · have HN : Hid (R = none) := by rw [HR.out]; exact if_neg (fun h => he h.2)
          have dn := tdiff he
          generalize shT ⟨true, (s.extract 2 s.size).extract 1 (s.size - 3)⟩ = U at hsh dn
          clear he HR
          go_enter Tryz.func106, Tryz.ntmps106
          go_wp2_with fail
          refine (hsh _).mono ?_
          rintro e w1 ⟨rfl, hb1⟩
          have T1 : Hid (TgB w1 (w.heap.size + 1) ⟨true, (s.extract 2 s.size).extract 1 (s.size - 3)⟩) := by
            have := TgB.new (w.alloc (.cells #[.bool false, .string ⟨#[]⟩] 131)) ⟨true, (s.extract 2 s.size).extract 1 (s.size - 3)⟩ 131
            simp only [World.size_alloc] at this
            exact this.kept hb1
          have T0 : Hid (TgB w1 w.heap.size noT) := ((TgB.new w noT 131).alloc _).kept hb1
          have B1 : Hid (Below w.heap.size w w1) := by
            refine past7 ?_ hb1
            repeat (first | exact Below.refl _ _ | refine Below.alloc ?_ (by simp <;> omega) _ | refine Below.setCell ?_ (by simp <;> omega) _)
          have P1 : Hid (TgB _ w.heap.size noT) := T0.out.put noT
          have B2 : Hid (Below w.heap.size w _) := (B1.out.setCell (p := ⟨w.heap.size, 0, none⟩) (Nat.le_refl _) (.bool (noT : Tg).w)).setCell (p := ⟨w.heap.size, 1, none⟩) (Nat.le_refl _) (.string (noT : Tg).t)
          have c0 := T1.out.c0
          have c1 := T1.out.c1
          have b0 := T0.out.c0
          have b1 := T0.out.c1
          have fz := T0.out.fz
          clear hb1
          go_wp2
          have p0 := P1.out.c0
          have p1 := P1.out.c1
          have BB := B2.out
          unfold noT at p0 p1 BB
          simp only at p0 p1 BB
          refine bodyPost_ret (v := .tuple #[.agg #[.bool false, .string ⟨#[]⟩], .bool false]) (by simp [results, Tryz.results106, go_sem, p0, p1]) rfl ⟨ret_rd (by rw [HN.out]; rfl), BB⟩
    · have dw := tdiff hw
      rw [wq_list] at dw
      have hk : wkB s = false := by unfold wkB; rw [decide_eq_false hw, Bool.and_false]
      have hr : rdT s = if 2 ≤ s.size ∧ shT ⟨false, s.extract 1 (s.size - 1)⟩ = s then some ⟨false, s.extract 1 (s.size - 1)⟩ else none := rdT_plain hk
      have HR : Hid (rdT s = _) := hr
      generalize rdT s = R at HR ⊢
      clear hw hk hr
      have hsh := fun W => specSh ⟨false, s.extract 1 (s.size - 1)⟩ W (by unfold maxLen; simp; omega)
      unfold tgV at hsh
      simp only at hsh
      by_cases he : shT ⟨false, s.extract 1 (s.size - 1)⟩ = s
      · have HN : Hid (R = some ⟨false, s.extract 1 (s.size - 1)⟩) := by rw [HR.out]; exact if_pos ⟨by omega, he⟩
        have dn := tsame he
        generalize shT ⟨false, s.extract 1 (s.size - 1)⟩ = U at hsh dn
        clear he HR
        go_enter Tryz.func106, Tryz.ntmps106
        go_wp2_with fail
        refine (hsh _).mono ?_
        rintro e w1 ⟨rfl, hb1⟩
        have T1 : Hid (TgB w1 (w.heap.size + 1) ⟨false, s.extract 1 (s.size - 1)⟩) := by
          have := TgB.new (w.alloc (.cells #[.bool false, .string ⟨#[]⟩] 131)) ⟨false, s.extract 1 (s.size - 1)⟩ 131
          simp only [World.size_alloc] at this
          exact this.kept hb1
        have T0 : Hid (TgB w1 w.heap.size noT) := ((TgB.new w noT 131).alloc _).kept hb1
        have B1 : Hid (Below w.heap.size w w1) := by
          refine past7 ?_ hb1
          repeat (first | exact Below.refl _ _ | refine Below.alloc ?_ (by simp <;> omega) _ | refine Below.setCell ?_ (by simp <;> omega) _)
        have P1 : Hid (TgB _ w.heap.size ⟨false, s.extract 1 (s.size - 1)⟩) := T0.out.put ⟨false, s.extract 1 (s.size - 1)⟩
        have B2 : Hid (Below w.heap.size w _) := (B1.out.setCell (p := ⟨w.heap.size, 0, none⟩) (Nat.le_refl _) (.bool (⟨false, s.extract 1 (s.size - 1)⟩ : Tg).w)).setCell (p := ⟨w.heap.size, 1, none⟩) (Nat.le_refl _) (.string (⟨false, s.extract 1 (s.size - 1)⟩ : Tg).t)
        have c0 := T1.out.c0
        have c1 := T1.out.c1
        have b0 := T0.out.c0
        have b1 := T0.out.c1
        have fz := T0.out.fz
        clear hb1
        go_wp2
        have p0 := P1.out.c0
        have p1 := P1.out.c1
        have BB := B2.out
        simp only at p0 p1 BB
        refine bodyPost_ret (v := .tuple #[.agg #[.bool false, .string (s.extract 1 (s.size - 1))], .bool true]) (by simp [results, Tryz.results106, go_sem, p0, p1]) rfl ⟨ret_rd (by rw [HN.out]; rfl), BB⟩
      · have HN : Hid (R = none) := by rw [HR.out]; exact if_neg (fun h => he h.2)
        have dn := tdiff he
        generalize shT ⟨false, s.extract 1 (s.size - 1)⟩ = U at hsh dn
        clear he HR
        go_enter Tryz.func106, Tryz.ntmps106
        go_wp2_with fail
        refine (hsh _).mono ?_
        rintro e w1 ⟨rfl, hb1⟩
        have T1 : Hid (TgB w1 (w.heap.size + 1) ⟨false, s.extract 1 (s.size - 1)⟩) := by
          have := TgB.new (w.alloc (.cells #[.bool false, .string ⟨#[]⟩] 131)) ⟨false, s.extract 1 (s.size - 1)⟩ 131
          simp only [World.size_alloc] at this
          exact this.kept hb1
        have T0 : Hid (TgB w1 w.heap.size noT) := ((TgB.new w noT 131).alloc _).kept hb1
        have B1 : Hid (Below w.heap.size w w1) := by
          refine past7 ?_ hb1
          repeat (first | exact Below.refl _ _ | refine Below.alloc ?_ (by simp <;> omega) _ | refine Below.setCell ?_ (by simp <;> omega) _)
        have P1 : Hid (TgB _ w.heap.size noT) := T0.out.put noT
        have B2 : Hid (Below w.heap.size w _) := (B1.out.setCell (p := ⟨w.heap.size, 0, none⟩) (Nat.le_refl _) (.bool (noT : Tg).w)).setCell (p := ⟨w.heap.size, 1, none⟩) (Nat.le_refl _) (.string (noT : Tg).t)
        have c0 := T1.out.c0
        have c1 := T1.out.c1
        have b0 := T0.out.c0
        have b1 := T0.out.c1
        have fz := T0.out.fz
        clear hb1
        go_wp2
        have p0 := P1.out.c0
        have p1 := P1.out.c1
        have BB := B2.out
        unfold noT at p0 p1 BB
        simp only at p0 p1 BB
        refine bodyPost_ret (v := .tuple #[.agg #[.bool false, .string ⟨#[]⟩], .bool false]) (by simp [results, Tryz.results106, go_sem, p0, p1]) rfl ⟨ret_rd (by rw [HN.out]; rfl), BB⟩
  · have d2 : decide (2 < (s.size : Int)) = false := by simp; omega
    have hk : wkB s = false := by unfold wkB; rw [decide_eq_false h2]; rfl
    have hr : rdT s = if 2 ≤ s.size ∧ shT ⟨false, s.extract 1 (s.size - 1)⟩ = s then some ⟨false, s.extract 1 (s.size - 1)⟩ else none := rdT_plain hk
    have HR : Hid (rdT s = _) := hr
    generalize rdT s = R at HR ⊢
    clear hk hr
    by_cases h4 : s.size < 2
    · have HN : Hid (R = none) := by rw [HR.out]; exact if_neg (by omega)
      clear HR
      go_enter Tryz.func106, Tryz.ntmps106
      go_wp2
      refine bodyPost_ret (v := .tuple #[.agg #[.bool false, .string ⟨#[]⟩], .bool false]) (by simp [results, Tryz.results106, go_sem]) rfl ⟨ret_rd (by rw [HN.out]; rfl), ?_⟩
      repeat (first | exact Below.refl _ _ | refine Below.alloc ?_ (by simp <;> omega) _ | refine Below.setCell ?_ (by simp <;> omega) _)
    · 
      have hsh := fun W => specSh ⟨false, s.extract 1 (s.size - 1)⟩ W (by unfold maxLen; simp; omega)
      unfold tgV at hsh
      simp only at hsh
      by_cases he : shT ⟨false, s.extract 1 (s.size - 1)⟩ = s
      · have HN : Hid (R = some ⟨false, s.extract 1 (s.size - 1)⟩) := by rw [HR.out]; exact if_pos ⟨by omega, he⟩
        have dn := tsame he
        generalize shT ⟨false, s.extract 1 (s.size - 1)⟩ = U at hsh dn
        clear he HR
        go_enter Tryz.func106, Tryz.ntmps106
        go_wp2_with fail
        refine (hsh _).mono ?_
        rintro e w1 ⟨rfl, hb1⟩
        have T1 : Hid (TgB w1 (w.heap.size + 1) ⟨false, s.extract 1 (s.size - 1)⟩) := by
          have := TgB.new (w.alloc (.cells #[.bool false, .string ⟨#[]⟩] 131)) ⟨false, s.extract 1 (s.size - 1)⟩ 131
          simp only [World.size_alloc] at this
          exact this.kept hb1
        have T0 : Hid (TgB w1 w.heap.size noT) := ((TgB.new w noT 131).alloc _).kept hb1
        have B1 : Hid (Below w.heap.size w w1) := by
          refine past7 ?_ hb1
          repeat (first | exact Below.refl _ _ | refine Below.alloc ?_ (by simp <;> omega) _ | refine Below.setCell ?_ (by simp <;> omega) _)
        have P1 : Hid (TgB _ w.heap.size ⟨false, s.extract 1 (s.size - 1)⟩) := T0.out.put ⟨false, s.extract 1 (s.size - 1)⟩
        have B2 : Hid (Below w.heap.size w _) := (B1.out.setCell (p := ⟨w.heap.size, 0, none⟩) (Nat.le_refl _) (.bool (⟨false, s.extract 1 (s.size - 1)⟩ : Tg).w)).setCell (p := ⟨w.heap.size, 1, none⟩) (Nat.le_refl _) (.string (⟨false, s.extract 1 (s.size - 1)⟩ : Tg).t)
        have c0 := T1.out.c0
        have c1 := T1.out.c1
        have b0 := T0.out.c0
        have b1 := T0.out.c1
        have fz := T0.out.fz
        clear hb1
        go_wp2
        have p0 := P1.out.c0
        have p1 := P1.out.c1
        have BB := B2.out
        simp only at p0 p1 BB
        refine bodyPost_ret (v := .tuple #[.agg #[.bool false, .string (s.extract 1 (s.size - 1))], .bool true]) (by simp [results, Tryz.results106, go_sem, p0, p1]) rfl ⟨ret_rd (by rw [HN.out]; rfl), BB⟩
      · have HN : Hid (R = none) := by rw [HR.out]; exact if_neg (fun h => he h.2)
        have dn := tdiff he
        generalize shT ⟨false, s.extract 1 (s.size - 1)⟩ = U at hsh dn
        clear he HR
        go_enter Tryz.func106, Tryz.ntmps106
        go_wp2_with fail
        refine (hsh _).mono ?_
        rintro e w1 ⟨rfl, hb1⟩
        have T1 : Hid (TgB w1 (w.heap.size + 1) ⟨false, s.extract 1 (s.size - 1)⟩) := by
          have := TgB.new (w.alloc (.cells #[.bool false, .string ⟨#[]⟩] 131)) ⟨false, s.extract 1 (s.size - 1)⟩ 131
          simp only [World.size_alloc] at this
          exact this.kept hb1
        have T0 : Hid (TgB w1 w.heap.size noT) := ((TgB.new w noT 131).alloc _).kept hb1
        have B1 : Hid (Below w.heap.size w w1) := by
          refine past7 ?_ hb1
          repeat (first | exact Below.refl _ _ | refine Below.alloc ?_ (by simp <;> omega) _ | refine Below.setCell ?_ (by simp <;> omega) _)
        have P1 : Hid (TgB _ w.heap.size noT) := T0.out.put noT
        have B2 : Hid (Below w.heap.size w _) := (B1.out.setCell (p := ⟨w.heap.size, 0, none⟩) (Nat.le_refl _) (.bool (noT : Tg).w)).setCell (p := ⟨w.heap.size, 1, none⟩) (Nat.le_refl _) (.string (noT : Tg).t)
        have c0 := T1.out.c0
        have c1 := T1.out.c1
        have b0 := T0.out.c0
        have b1 := T0.out.c1
        have fz := T0.out.fz
        clear hb1
        go_wp2
        have p0 := P1.out.c0
        have p1 := P1.out.c1
        have BB := B2.out
        unfold noT at p0 p1 BB
        simp only at p0 p1 BB
        refine bodyPost_ret (v := .tuple #[.agg #[.bool false, .string ⟨#[]⟩], .bool false]) (by simp [results, Tryz.results106, go_sem, p0, p1]) rfl ⟨ret_rd (by rw [HN.out]; rfl), BB⟩

end Go.Proofs.YtkaogmdhjcgcdaaGreatDoor
namespace Go.Proofs.YtkaogmdhjcgcdaaGreatDoor.Dd
open Go.RowKit Go.Sort

theorem info2 : (Tryz.prog.info? 2).map (fun i => (i.zero, i.size, i.bytes)) = some (some (.int .i64 0), 1, 8) := by kernel_rfl
/-- Numbers as cells. -/
def intsV (l : List Int) : List Value := l.map fun c => .int .i64 c
/-- The value v owns the numbers l, in a block from B on. -/
def OwnsI (w : World) (B : Nat) (v : Value) (l : List Int) : Prop := w.ownsRow B 2 1 v l.length (intsV l)
theorem OwnsI.empty (w : World) : OwnsI (w.alloc (.cells #[] 2)) w.heap.size (.slice (some ⟨w.heap.size, 0, none⟩) 0 0) [] :=
  World.ownsRow_lit w #[] 0 (Nat.le_refl _) (by unfold maxLen; decide) rfl
theorem OwnsI.alloc {w : World} {B : Nat} {v : Value} {l : List Int} (h : OwnsI w B v l) (o : Obj) : OwnsI (w.alloc o) B v l := World.ownsRow.alloc h o
theorem OwnsI.kept {w w' : World} {B : Nat} {v : Value} {l : List Int} (h : OwnsI w B v l) (hb : Below w.heap.size w w') : OwnsI w' B v l := by
  refine ⟨h.1, ?_⟩
  rcases h.2 with h0 | ⟨g, cap, cur, hv, hB, hg, rest⟩
  · exact .inl h0
  · exact .inr ⟨g, cap, cur, hv, hB, (hb.block g (Array.getElem?_eq_some_iff.1 hg).1).trans hg, rest⟩
/-- The owned block is none of another type. -/
theorem OwnsI.not {w : World} {B : Nat} {v : Value} {l : List Int} (h : OwnsI w B v l) {k : Nat} {C : Array Value} {fr : Nat × Nat} (hk : w.heap[k]? = some (.cells C 3 fr)) : some k ≠ v.ownBlock := by
  rcases h.2 with ⟨rfl, _⟩ | ⟨g, cap, cur, rfl, hB, hg, rest⟩
  · intro e; cases e
  · intro e
    have e' : k = g := Option.some.inj e
    rw [e', hg] at hk
    cases hk
theorem OwnsI.from {w : World} {B : Nat} {v : Value} {l : List Int} (h : OwnsI w B v l) : ∀ k, v.ownBlock = some k → B ≤ k := fun k hk => (World.ownsRow.lt h k hk).1
/-- One number appended. -/
theorem wpList_pushI {ops : Array Oper} {rest : List Oper} {o : Oper} {a : Act} {Q : Exit → Act → World → Prop} (w : World) (hgd : o.guard = none) (s x : Operand)
    (ho : o.op = .call { callee := .builtin .append, args := #[s, x], argTypes := #[96, 96] }) (B : Nat) (v : Value) (l : List Int) (c : Int) (hs : a.eval s = v) (hown : OwnsI w B v l)
    (hx : a.eval x = .slice (some ⟨w.heap.size, 0, none⟩) 1 1) (hlen : l.length ≤ 7) (hB : B ≤ w.heap.size)
    (h : ∀ v' w', OwnsI w' B v' (l ++ [c]) → w.grownBy w' v.ownBlock → wpList Tryz.prog ops Q rest (a.put o.dst v') w') :
    wpList Tryz.prog ops Q (o :: rest) a (w.alloc (.cells #[.int .i64 c] 2)) := by
  obtain ⟨i0, hi, hz0, hz1, hz2⟩ := info_parts info2
  refine wpList_append_own _ hgd s x 96 ho B 2 i0 (.int .i64 0) 1 8 Tryz.underlying96 hi hz0 hz1 hz2 rfl (by decide) v l.length (intsV l) hs (OwnsI.alloc hown _) ⟨w.heap.size, 0, none⟩ 1 1 [.int .i64 c] hx rfl (cell_one_new _ _ _)
    (by intro u hu; simp at hu; subst hu; rfl) (by unfold maxLen; omega) (by omega) (by simp; omega) ?_
  intro v' w' h1 h2 _
  refine h v' w' ?_ ⟨h2.os, h2.tape, h2.output, ?_, ?_⟩
  · unfold OwnsI intsV
    rw [List.map_append, List.length_append]
    exact h1
  · have := h2.size
    simp at this
    omega
  · intro k hk hne
    rw [h2.block k (by simp; omega) hne]
    exact Below.heap_alloc _ _ _ hk
theorem OwnsI.six {w : World} {B : Nat} {v : Value} {a b c d e f : Int} (h : OwnsI w B v [a, b, c, d, e, f]) : ∃ g cap, v = .slice (some ⟨g, 0, none⟩) 6 cap ∧ B ≤ g ∧ w.cell? ⟨g, 0, none⟩ = some (.int .i64 a) ∧ w.cell? ⟨g, 1, none⟩ = some (.int .i64 b) ∧ w.cell? ⟨g, 2, none⟩ = some (.int .i64 c) ∧ w.cell? ⟨g, 3, none⟩ = some (.int .i64 d) ∧ w.cell? ⟨g, 4, none⟩ = some (.int .i64 e) ∧ w.cell? ⟨g, 5, none⟩ = some (.int .i64 f) := by
  have hc := h
  rcases h.2 with ⟨_, hn⟩ | ⟨g, cap, cur, rfl, hB, hg, rest⟩
  · cases hn
  · have k := World.ownsRow.cells hc (g := g) rfl
    exact ⟨g, cap, rfl, hB, k 0 _ rfl, k 1 _ rfl, k 2 _ rfl, k 3 _ rfl, k 4 _ rfl, k 5 _ rfl⟩

/-- A date in a block that is not frozen. -/
def Fb (x : World) (g : Nat) (y m d h i s : Int) : Prop := Dt x g y m d h i s ∧ ∀ j, x.frozen? ⟨g, j, none⟩ = false
theorem Fb.below {x x' : World} {g B : Nat} {y m d h i s : Int} (k : Fb x g y m d h i s) (hb : Below B x x') (hg : g < B) : Fb x' g y m d h i s := ⟨k.1.below hb hg, fun j => (hb.frozen (p := ⟨g, j, none⟩) hg).trans (k.2 j)⟩
theorem Fb.born (w : World) (t : TypeId) : Fb (w.alloc (.cells #[.int .i64 0, .int .i64 0, .int .i64 0, .int .i64 0, .int .i64 0, .int .i64 0] t)) w.heap.size 0 0 0 0 0 0 := ⟨Dt.born w t 0 0 0 0 0 0, fun j => boxFree (Grew.refl _) j⟩
theorem Fb.month {x : World} {g : Nat} {y m d h i s : Int} (k : Fb x g y m d h i s) (m' : Int) : Fb (x.setCell ⟨g, 1, none⟩ (.int .i64 m')) g y m' d h i s := by
  obtain ⟨⟨hz, c0, c1, c2, c3, c4, c5⟩, hf⟩ := k
  refine ⟨⟨by simpa [World.setCell] using hz, ?_, ?_, ?_, ?_, ?_, ?_⟩, fun j => by rw [World.frozen?_setCell]; exact hf j⟩
  all_goals simp [go_sem, c0, c1, c2, c3, c4, c5]
/-- The month as far as names were looked at. -/
def mcur (t : ByteArray) (k : Int) : Int := if monV t < k then monV t else 0
theorem mcur_one (t : ByteArray) : mcur t 1 = 0 := by
  have := monV_bd t
  unfold mcur; split <;> omega
theorem mcur_yes {t : ByteArray} {k : Int} (h : monV t = k) : mcur t (k + 1) = k := by unfold mcur; rw [if_pos (by omega)]; exact h
theorem mcur_no {t : ByteArray} {k : Int} (h : monV t ≠ k) : mcur t (k + 1) = mcur t k := by unfold mcur; by_cases e : monV t < k; (· rw [if_pos e, if_pos (by omega)]); rw [if_neg e, if_neg (by omega)]
theorem mcur_all (t : ByteArray) : mcur t 13 = monV t := by
  have := monV_bd t
  unfold mcur; rw [if_pos (by omega)]
end Go.Proofs.YtkaogmdhjcgcdaaGreatDoor.Dd
