/-
  A date in a block, and one that a text is the date of.
  Policy as plain data: what is right, how long it is fresh, how old it is, what is to be done.
  The contracts of the law's own helpers on fields: how large, turned into the program's, compared.
  The contracts of 'a field is right', the specification's and the program's.
  The contract of 'a field is right', the program's.
  The contracts of FieldsOk, the specification's and the program's.
  The bytes of a text appended to a row of bytes that a call owns; what stays where such a row grows.
-/
import Derived.Test.YtkaogmdhjcgcdaaGreatDoorG20
import Derived.Test.YtkaogmdhjcgcdaaGreatDoorG08
import Derived.Test.YtkaogmdhjcgcdaaGreatDoorG10
import Derived.Test.YtkaogmdhjcgcdaaGreatDoorG11
import Derived.Test.YtkaogmdhjcgcdaaGreatDoorG04
import Derived.Test.YtkaogmdhjcgcdaaGreatDoorG12
import Derived.Laws.OwnMore
import Derived.Test.YtkaogmdhjcgcdaaGreatDoorG05
import Derived.Deep.RegionWith
import Derived.WalkKit
import Derived.WalkSpells
import Derived.Lib.AppendStr
namespace Go.Proofs.YtkaogmdhjcgcdaaGreatDoor.Dd
open Go.RowKit Go.Sort

/-- A date in a block. -/
def Dt (w : World) (g : Nat) (y m d h i s : Int) : Prop := g < w.heap.size ∧ w.cell? ⟨g, 0, none⟩ = some (.int .i64 y) ∧ w.cell? ⟨g, 1, none⟩ = some (.int .i64 m) ∧ w.cell? ⟨g, 2, none⟩ = some (.int .i64 d) ∧ w.cell? ⟨g, 3, none⟩ = some (.int .i64 h) ∧ w.cell? ⟨g, 4, none⟩ = some (.int .i64 i) ∧ w.cell? ⟨g, 5, none⟩ = some (.int .i64 s)
theorem Dt.below {w w' : World} {g B : Nat} {y m d h i s : Int} (k : Dt w g y m d h i s) (hb : Below B w w') (hg : g < B) : Dt w' g y m d h i s :=
  ⟨Nat.lt_of_lt_of_le k.1 hb.size, (hb.cell (p := ⟨g, 0, none⟩) hg).trans k.2.1, (hb.cell (p := ⟨g, 1, none⟩) hg).trans k.2.2.1, (hb.cell (p := ⟨g, 2, none⟩) hg).trans k.2.2.2.1, (hb.cell (p := ⟨g, 3, none⟩) hg).trans k.2.2.2.2.1, (hb.cell (p := ⟨g, 4, none⟩) hg).trans k.2.2.2.2.2.1, (hb.cell (p := ⟨g, 5, none⟩) hg).trans k.2.2.2.2.2.2⟩
theorem Dt.grew {w w' : World} {g : Nat} {y m d h i s : Int} (k : Dt w g y m d h i s) (hb : Grew w w') : Dt w' g y m d h i s := k.below hb.1 k.1
theorem Dt.alloc {w : World} {g : Nat} {y m d h i s : Int} (k : Dt w g y m d h i s) (o : Obj) : Dt (w.alloc o) g y m d h i s := k.grew ((Grew.refl w).alloc o)
theorem Dt.born (w : World) (t : TypeId) (y m d h i s : Int) : Dt (w.alloc (.cells #[.int .i64 y, .int .i64 m, .int .i64 d, .int .i64 h, .int .i64 i, .int .i64 s] t)) w.heap.size y m d h i s :=
  ⟨by simp, boxCells (Grew.refl _)⟩

/-- A block of six noughts, not frozen. -/
def Zb (x : World) (g : Nat) : Prop := Dt x g 0 0 0 0 0 0 ∧ ∀ j, x.frozen? ⟨g, j, none⟩ = false
theorem Zb.grew {x x' : World} {g : Nat} (h : Zb x g) (hb : Grew x x') : Zb x' g := ⟨h.1.grew hb, fun j => (hb.1.frozen (p := ⟨g, j, none⟩) h.1.1).trans (h.2 j)⟩
theorem Zb.of {w x : World} {t : TypeId} (hb : Grew (w.alloc (.cells #[.int .i64 0, .int .i64 0, .int .i64 0, .int .i64 0, .int .i64 0, .int .i64 0] t)) x) : Zb x w.heap.size := ⟨(Dt.born w t 0 0 0 0 0 0).grew hb, fun j => boxFree hb j⟩
theorem Zb.puts {x : World} {g : Nat} (z : Zb x g) (v0 v1 v2 v3 v4 v5 : Int) : Dt ((((((x.setCell ⟨g, 0, none⟩ (.int .i64 v0)).setCell ⟨g, 1, none⟩ (.int .i64 v1)).setCell ⟨g, 2, none⟩ (.int .i64 v2)).setCell ⟨g, 3, none⟩ (.int .i64 v3)).setCell ⟨g, 4, none⟩ (.int .i64 v4)).setCell ⟨g, 5, none⟩ (.int .i64 v5)) g v0 v1 v2 v3 v4 v5 := by
  obtain ⟨⟨hz, c0, c1, c2, c3, c4, c5⟩, _⟩ := z
  refine ⟨by simpa [World.setCell] using hz, ?_, ?_, ?_, ?_, ?_, ?_⟩
  all_goals simp [go_sem, c0, c1, c2, c3, c4, c5]
theorem Grew.puts {w x : World} {g : Nat} (h : Grew w x) (hg : w.heap.size ≤ g) (v0 v1 v2 v3 v4 v5 : Value) : Grew w ((((((x.setCell ⟨g, 0, none⟩ v0).setCell ⟨g, 1, none⟩ v1).setCell ⟨g, 2, none⟩ v2).setCell ⟨g, 3, none⟩ v3).setCell ⟨g, 4, none⟩ v4).setCell ⟨g, 5, none⟩ v5) :=
  (((((h.put hg 0 _).put hg 1 _).put hg 2 _).put hg 3 _).put hg 4 _).put hg 5 _
/-- What ReadDate answers: the date that the text is of, or nothing. -/
def ReadIs (t : ByteArray) (v : Value) : Prop := (∃ y m d h i s : Int, okD y m d h i s ∧ showA y m d h i s = t ∧ v = .tuple #[.agg #[.int .i64 y, .int .i64 m, .int .i64 d, .int .i64 h, .int .i64 i, .int .i64 s], .bool true]) ∨ ((∀ y m d h i s : Int, okD y m d h i s → showA y m d h i s ≠ t) ∧ v = .tuple #[.agg #[.int .i64 0, .int .i64 0, .int .i64 0, .int .i64 0, .int .i64 0, .int .i64 0], .bool false])
/-- A text has one date. -/
theorem show_one {y m d h i s y' m' d' h' i' s' : Int} (ok : okD y m d h i s) (ok' : okD y' m' d' h' i' s') {t : ByteArray} (e : showA y m d h i s = t) (e' : showA y' m' d' h' i' s' = t) : y = y' ∧ m = m' ∧ d = d' ∧ h = h' ∧ i = i' ∧ s = s' := by
  obtain ⟨a1, a2, a3, a4, a5, a6, _⟩ := parts_of ok e
  obtain ⟨b1, b2, b3, b4, b5, b6, _⟩ := parts_of ok' e'
  exact ⟨a1.symm.trans b1, a2.symm.trans b2, a3.symm.trans b3, a4.symm.trans b4, a5.symm.trans b5, a6.symm.trans b6⟩
theorem ReadIs.one {t : ByteArray} {v v' : Value} (h : ReadIs t v) (h' : ReadIs t v') : v = v' := by
  rcases h with ⟨y, m, d, hh, i, s, ok, e, rfl⟩ | ⟨no, rfl⟩
  · rcases h' with ⟨y', m', d', hh', i', s', ok', e', rfl⟩ | ⟨no', rfl⟩
    · obtain ⟨rfl, rfl, rfl, rfl, rfl, rfl⟩ := show_one ok ok' e e'
      rfl
    · exact absurd e (no' _ _ _ _ _ _ ok)
  · rcases h' with ⟨y', m', d', hh', i', s', ok', e', rfl⟩ | ⟨no', rfl⟩
    · exact absurd e' (no _ _ _ _ _ _ ok')
    · rfl
theorem showV_full {y m d h i s : Int} {t : ByteArray} (hz : t.size = 29) (e : showV y m d h i s = t) : okD y m d h i s ∧ showA y m d h i s = t := by
  unfold showV at e
  by_cases hok : okB y m d h i s = true
  · rw [if_pos hok] at e
    exact ⟨of_decide_eq_true hok, e⟩
  · rw [if_neg hok] at e
    rw [← e] at hz
    cases hz
theorem showV_of {y m d h i s : Int} (ok : okD y m d h i s) : showV y m d h i s = showA y m d h i s := by
  unfold showV; rw [if_pos (show okB y m d h i s = true from decide_eq_true ok)]
end Go.Proofs.YtkaogmdhjcgcdaaGreatDoor.Dd
namespace Go.Proofs.YtkaogmdhjcgcdaaGreatDoor
open Go.RowKit
set_option linter.unusedVariables false

/-- cache-control, etag, expires, date, age, authorization -/
def nCC : ByteArray := ⟨#[99, 97, 99, 104, 101, 45, 99, 111, 110, 116, 114, 111, 108]⟩
def nET : ByteArray := ⟨#[101, 116, 97, 103]⟩
def nEX : ByteArray := ⟨#[101, 120, 112, 105, 114, 101, 115]⟩
def nDA : ByteArray := ⟨#[100, 97, 116, 101]⟩
def nAG : ByteArray := ⟨#[97, 103, 101]⟩
def nAU : ByteArray := ⟨#[97, 117, 116, 104, 111, 114, 105, 122, 97, 116, 105, 111, 110]⟩
/-- The control of fields, and whether they have a tag. -/
def ctlOf (l : List Fl) : Ct := rdCt (getF l nCC).1
def tagOf (l : List Fl) : Bool := (rdT (getF l nET).1).isSome
/-- The moment of a text: that of the date that it shows; -1 where it shows none. -/
def MomIs (t : ByteArray) (n : Int) : Prop := (∃ y m d h i s : Int, Dd.okD y m d h i s ∧ Dd.showA y m d h i s = t ∧ n = Dd.momN y m d h i s) ∨ ((∀ y m d h i s : Int, Dd.okD y m d h i s → Dd.showA y m d h i s ≠ t) ∧ n = -1)
theorem MomIs.ex (t : ByteArray) : ∃ n, MomIs t n := by
  by_cases h : ∃ y m d h i s : Int, Dd.okD y m d h i s ∧ Dd.showA y m d h i s = t
  · obtain ⟨y, m, d, hh, i, s, h1, h2⟩ := h
    exact ⟨_, .inl ⟨y, m, d, hh, i, s, h1, h2, rfl⟩⟩
  · exact ⟨-1, .inr ⟨fun y m d hh i s h1 h2 => h ⟨y, m, d, hh, i, s, h1, h2⟩, rfl⟩⟩
/-- The moment of a field. -/
def FldMom (l : List Fl) (name : ByteArray) (n : Int) : Prop := MomIs (getF l name).1 n
theorem FldMom.ex (l : List Fl) (name : ByteArray) : ∃ n, FldMom l name n := MomIs.ex _
def lifeF (c : Ct) (e d : Int) : Int := if 0 ≤ c.s then c.s else if 0 ≤ c.a then c.a else if 0 ≤ e ∧ 0 ≤ d then maxI 0 (e - d) else 0
/-- How long a response is fresh, its expires and date being e and d. -/
def lifeV (r : Rs) (e d : Int) : Int := if rsOk r = true then lifeF (ctlOf r.l) e d else -1
def ageF (o : Ob) (told d now : Int) : Int := minI 1000000000 (maxI (if 0 ≤ d then maxI 0 (o.got - d) else 0) (told + o.got - o.asked) + now - o.got)
/-- How old an object is, its date being d. -/
def ageV (o : Ob) (now d : Int) : Int := if obB o = true ∧ momB now = true ∧ o.got ≤ now then ageF o (numV 10 15 (getF o.r.l nAG).1) d now else -1
def freshV (o : Ob) (now e d : Int) : Bool := decide (0 ≤ ageV o now d) && (decide (ageV o now d < lifeV o.r e d) && !(ctlOf o.r.l).nc)
def statB (s : Int) : Bool := decide (s = 200) || (decide (s = 203) || (decide (s = 204) || (decide (s = 300) || (decide (s = 301) || (decide (s = 404) || decide (s = 410))))))
/-- What may be stored. -/
def stoV (m : ByteArray) (l : List Fl) (r : Rs) : Bool :=
  if m = ⟨#[71, 69, 84]⟩ ∧ fldsOk l = true ∧ rsOk r = true then
    statB r.s && (!(ctlOf l).ns && (!(ctlOf r.l).ns && (!(ctlOf r.l).pr && ((decide (0 ≤ (ctlOf r.l).s) || (decide (0 ≤ (ctlOf r.l).a) || ((getF r.l nEX).2 || tagOf r.l))) && (!(getF l nAU).2 || (decide (0 ≤ (ctlOf r.l).s) || (ctlOf r.l).mu))))))
  else false
end Go.Proofs.YtkaogmdhjcgcdaaGreatDoor
namespace Go.Proofs.YtkaogmdhjcgcdaaGreatDoor
open Go.RowKit Go.Sort

theorem szF1 (f : Fl) (n : Nat) (hn : n ≤ 1048576) (h1 : f.1.size ≤ maxLen) (h2 : f.2.size ≤ maxLen) (w : World) :
    Calls Tryz.prog 86 #[.agg #[.string f.1, .string f.2], .int .i64 n] w fun e w' => (∃ r : Int, e = .returned (.int .i64 r) ∧ (r = -1 ∨ (0 ≤ r ∧ r + f.1.size + f.2.size = n))) ∧ Below w.heap.size w w' := by
  unfold maxLen at h1 h2
  have hb := (Below.refl w.heap.size w).alloc (Nat.le_refl _) (.cells #[.string f.1, .string f.2] 109)
  go_enter Tryz.func86, Tryz.ntmps86
  go_wp2
  · go_ret
    exact ⟨⟨-1, rfl, Or.inl rfl⟩, hb⟩
  · go_ret
    exact ⟨⟨-1, rfl, Or.inl rfl⟩, hb⟩
  · go_ret
    exact ⟨⟨_, rfl, Or.inr ⟨by omega, by omega⟩⟩, hb⟩

theorem toF1 (f : Fl) (w : World) :
    Calls Tryz.prog 87 #[.agg #[.string f.1, .string f.2]] w fun e w' => e = .returned (.agg #[.string f.1, .string f.2]) ∧ Below w.heap.size w w' := by
  go_enter Tryz.func87, Tryz.ntmps87
  go_wp2
  refine bodyPost_ret (v := .agg #[.string f.1, .string f.2]) (by simp [results, Tryz.results87, go_sem]) rfl ⟨rfl, ?_⟩
  exact (((Grew.refl w).alloc _).alloc _ |>.alloc _).low

theorem eqF1 (f : Fl) (w : World) :
    Calls Tryz.prog 88 #[.agg #[.string f.1, .string f.2], .agg #[.string f.1, .string f.2]] w fun e w' => e = .returned (.bool true) ∧ Grew w w' := by
  go_enter Tryz.func88, Tryz.ntmps88
  go_wp2
  go_ret
  exact ⟨rfl, ((Grew.refl w).alloc _).alloc _⟩

theorem made_cells (n : Nat) : (madeCells (Value.cells (.agg #[.string ⟨#[]⟩, .string ⟨#[]⟩])) (n * 2)).toList = cellsF (List.replicate n (⟨#[]⟩, ⟨#[]⟩)) := by
  apply List.ext_getElem?
  intro j
  by_cases hj : j < n * 2
  · have e : (madeCells (Value.cells (.agg #[.string ⟨#[]⟩, .string ⟨#[]⟩])) (n * 2)).toList[j]? = some (.string ⟨#[]⟩) := by
      have h2 : j % 2 = 0 ∨ j % 2 = 1 := by omega
      rcases h2 with h2 | h2 <;> simp [madeCells, hj, Value.cells, h2]
    rw [e]
    obtain ⟨c1, c2⟩ := cellsF_at (List.replicate n (⟨#[]⟩, ⟨#[]⟩)) (j / 2) (by simp; omega)
    have h2 : j = j / 2 * 2 ∨ j = j / 2 * 2 + 1 := by omega
    rcases h2 with h2 | h2
    · rw [h2, c1]; simp
    · rw [h2, c2]; simp
  · rw [List.getElem?_eq_none (by simp [madeCells]; omega), List.getElem?_eq_none (by rw [cellsF_length]; simp; omega)]
theorem putF (l : List Fl) (k : Nat) (hk : k < l.length) (f : Fl) : (l.set k (f.1, l[k].2)).set k (((l.set k (f.1, l[k].2))[k]'(by rw [List.length_set]; exact hk)).1, f.2) = l.set k f := by
  rw [List.set_set]; simp
/-- Turned so far: the first k, and behind them empty ones. -/
def turned (l : List Fl) (k : Nat) : List Fl := l.take k ++ List.replicate (l.length - k) (⟨#[]⟩, ⟨#[]⟩)
theorem turned_length (l : List Fl) (k : Nat) (hk : k ≤ l.length) : (turned l k).length = l.length := by unfold turned; simp; omega
theorem turned_zero (l : List Fl) : turned l 0 = List.replicate l.length (⟨#[]⟩, ⟨#[]⟩) := by simp [turned]
theorem turned_all (l : List Fl) : turned l l.length = l := by simp [turned]
theorem turned_next (l : List Fl) (k : Nat) (hk : k < l.length) : (turned l k).set k l[k] = turned l (k + 1) := by
  unfold turned
  have e : (l.take k).length = k := by simp; omega
  rw [List.set_append_right _ _ (by omega), e, Nat.sub_self, List.take_succ_eq_append_getElem hk, List.append_assoc]
  congr 1
  rw [show l.length - k = (l.length - (k + 1)) + 1 from by omega, List.replicate_succ, List.set_cons_zero]
  rfl

set_option maxHeartbeats 400000 in
theorem toFS (v : Value) (l : List Fl) (w : World) (h : Fls w v l) (hl : l.length ≤ 1048576) :
    Calls Tryz.prog 35 #[v] w fun e w' => ∃ u, e = .returned u ∧ OwnsF w' w.heap.size u l ∧ Below w.heap.size w w' := by
  obtain ⟨a, cap, rfl, h1, h2, h3⟩ := h
  unfold maxLen at h2
  obtain ⟨i0, hi, hz0, hz1, hz2⟩ := info_parts Tryz.infoF
  obtain ⟨w0, hrun, hown, hgr⟩ := run_make_full (P := Tryz.prog) w w.heap.size 24 105 i0 (.agg #[.string ⟨#[]⟩, .string ⟨#[]⟩]) 2 Tryz.underlying24 hi hz0 hz1 .i64 .i64 l.length (by rw [hz2]; omega) (by unfold maxLen; omega) (Nat.le_refl _)
  rw [made_cells, ← turned_zero] at hown
  have hown0 : OwnsF w0 w.heap.size (.slice (some ⟨w.heap.size, 0, none⟩) l.length l.length) (turned l 0) := by
    unfold OwnsF
    rw [turned_length l 0 (Nat.zero_le _)]
    exact hown
  have hb0 : Below w.heap.size w w0 := (Below.refl _ w).grown hgr (Nat.le_refl _) (fun j hj => by cases hj)
  have hs0 : w.heap.size < w0.heap.size := OwnsF.under hown0 _ rfl
  clear hown hgr hi hz0 hz1 hz2
  go_enter Tryz.func35, Tryz.ntmps35
  go_wp2
  go_loopw [4] (fun i wr => ∃ k : Nat, k ≤ l.length ∧ i = .int .i64 k ∧ OwnsF wr w.heap.size (.slice (some ⟨w.heap.size, 0, none⟩) l.length l.length) (turned l k) ∧ Below w.heap.size w wr) (fun i _ => l.length - (intOf i).toNat)
  case atStart => exact ⟨0, Nat.zero_le _, rfl, hown0, hb0⟩
  case round =>
    clear hown0 hb0 hs0 hrun
    obtain ⟨k, hk, rfl, ho, hb⟩ := hrel
    by_cases hlt : k < l.length
    · obtain ⟨g, o, rfl, hg, hc⟩ := h3 (by omega)
      have c1 := (hb.cell (p := ⟨g, o + k * 2, none⟩) hg).trans (hc k hlt).1
      have c2 := (hb.cell (p := ⟨g, o + k * 2 + 1, none⟩) hg).trans (hc k hlt).2
      have hnx := turned_next l k hlt
      have hln := turned_length l k hk
      generalize l[k] = f at c1 c2 hnx
      generalize hl2 : turned l (k + 1) = l2 at hnx
      generalize turned l k = l1 at ho hnx hln
      clear hc h3
      go_wp2_with (go_at_call 87; refine (toF1 f _).mono ?_; rintro e w1 ⟨rfl, hb1⟩; have ho1 := ho.kept hb1; have f1 := ho1.free hln.symm (k * 2); have f2 := ho1.free hln.symm (k * 2 + 1); obtain ⟨d1, d2⟩ := ho1.at hln.symm k (by omega))
      have hp := (ho1.put1 (k := k) hln.symm (by omega) f.1).put2 (by rw [List.length_set]; exact hln.symm) (k := k) (by rw [List.length_set]; omega) f.2
      rw [putF l1 k (by omega) f, hnx] at hp
      go_roundw
      case rel => exact ⟨k + 1, by omega, by go_num, by rw [hl2]; exact hp, ((hb.trans (hb1.mono hb.size)).setCell (Nat.le_refl _) _).setCell (Nat.le_refl _) _⟩
      case measure => simp [intOf]; omega
    · obtain rfl : k = l.length := by omega
      rw [turned_all] at ho
      go_wp2
      go_ret
      exact ⟨_, rfl, ho, hb⟩

set_option maxHeartbeats 400000 in
theorem eqFS (va vb : Value) (l : List Fl) (w : World) (ha : Fls w va l) (hb : Fls w vb l) (hl : l.length ≤ 1048576) :
    Calls Tryz.prog 37 #[va, vb] w fun e w' => e = .returned (.bool true) ∧ Grew w w' := by
  obtain ⟨a, ca, rfl, a1, a2, a3⟩ := ha
  obtain ⟨b, cb, rfl, b1, b2, b3⟩ := hb
  have hmx := mixed
  go_enter Tryz.func37, Tryz.ntmps37
  go_wp2
  go_loopw [5] (fun i wr => ∃ (k : Nat), k ≤ l.length ∧ i = .int .i64 k ∧ Grew w wr) (fun i _ => l.length - (intOf i).toNat)
  case atStart => exact ⟨0, Nat.zero_le _, rfl, Grew.refl _⟩
  case round =>
    obtain ⟨k, hk, rfl, hg⟩ := hrel
    by_cases hlt : k < l.length
    · obtain ⟨ga, oa, rfl, hga, hca⟩ := a3 (by omega)
      obtain ⟨gb, ob, rfl, hgb, hcb⟩ := b3 (by omega)
      have c1 := hg.cell (hca k hlt).1 hga
      have c2 := hg.cell (hca k hlt).2 hga
      have c3 := hg.cell (hcb k hlt).1 hgb
      have c4 := hg.cell (hcb k hlt).2 hgb
      have hsz := hg.1.size
      generalize l[k] = f at c1 c2 c3 c4
      have k1 : ∀ n os, (grow (wr.drewN n) os).cell? ⟨ga, oa + k * 2, none⟩ = some (.string f.1) := fun n os => (cell?_grow _ _ _ (by show ga < wr.heap.size; omega)).trans c1
      have k2 : ∀ n os, (grow (wr.drewN n) os).cell? ⟨ga, oa + k * 2 + 1, none⟩ = some (.string f.2) := fun n os => (cell?_grow _ _ _ (by show ga < wr.heap.size; omega)).trans c2
      have k3 : ∀ n os, (grow (wr.drewN n) os).cell? ⟨gb, ob + k * 2, none⟩ = some (.string f.1) := fun n os => (cell?_grow _ _ _ (by show gb < wr.heap.size; omega)).trans c3
      have k4 : ∀ n os, (grow (wr.drewN n) os).cell? ⟨gb, ob + k * 2 + 1, none⟩ = some (.string f.2) := fun n os => (cell?_grow _ _ _ (by show gb < wr.heap.size; omega)).trans c4
      clear c1 c2 c3 c4 a3 b3 hca hcb
      go_wp2
      go_quiet_grown ((go_at_call 88; refine callGrew (eqF1 f _)))
      clear k1 k2 k3 k4
      have hg2 : Grew w (grow (wr.drewN nq) osq) := (hg.drewN _).more _
      generalize grow (wr.drewN nq) osq = w1 at hg2 ⊢
      go_wp2
      go_roundw
      case rel => exact ⟨k + 1, by omega, by go_num, hg2⟩
      case measure => simp [intOf]; omega
    · go_wp2
      go_ret
      exact ⟨rfl, hg⟩
end Go.Proofs.YtkaogmdhjcgcdaaGreatDoor
namespace Go.Proofs.YtkaogmdhjcgcdaaGreatDoor
open Go.RowKit Go.Sort

theorem box0 (w : World) (f : Fl) (t : TypeId) : (w.alloc (.cells #[.string f.1, .string f.2] t)).cell? ⟨w.heap.size, 0, none⟩ = some (.string f.1) := by rw [World.cell?_alloc_mark]; rfl
theorem box1 (w : World) (f : Fl) (t : TypeId) : (w.alloc (.cells #[.string f.1, .string f.2] t)).cell? ⟨w.heap.size, 1, none⟩ = some (.string f.2) := by rw [World.cell?_alloc_mark]; rfl
theorem box_lt (w : World) (o : Obj) : w.heap.size < (w.alloc o).heap.size := by simp

set_option maxHeartbeats 1000000 in
theorem specFld (f : Fl) (w : World) (h1 : f.1.size ≤ 1048576) (h2 : f.2.size ≤ 1048576) :
    Calls Tryz.prog 100 #[.agg #[.string f.1, .string f.2]] w fun e w' => e = .returned (.bool (fldOk f)) ∧ Below w.heap.size w w' := by
  have z1 : f.1.size ≤ maxLen := by unfold maxLen; omega
  have z2 : f.2.size ≤ maxLen := by unfold maxLen; omega
  have b0 := box0 w f 105
  have b1 := box1 w f 105
  have bl := box_lt w (.cells #[.string f.1, .string f.2] 105)
  have hbb := (Below.refl w.heap.size w).alloc (Nat.le_refl _) (.cells #[.string f.1, .string f.2] 105)
  cases ht : tokB f.1 with
  | false =>
    have HN : Hid (false = fldOk f) := fldOk_tok ht
    go_enter Tryz.func100, Tryz.ntmps100
    go_wp2
    first | go_region_with (go_at_call 128; refine (specTok _ _ z1).mono ?_; rw [ht]; rintro e w1 ⟨rfl, hb1⟩) | fail
    all_goals
      go_wp2
      go_ret
      exact ⟨ret_bool HN.out, hbb.trans ((show Below (w.alloc (.cells #[.string f.1, .string f.2] 105)).heap.size (w.alloc (.cells #[.string f.1, .string f.2] 105)) _ from ⟨hb1.os, hb1.tape, hb1.output, hb1.size, hb1.block⟩).mono (Nat.le_of_lt bl))⟩
  | true =>
    cases hv : visB f.2 with
    | false =>
      have HN : Hid (false = fldOk f) := fldOk_vis ht hv
      go_enter Tryz.func100, Tryz.ntmps100
      go_wp2
      first | go_region_with (first | (go_at_call 128; refine (specTok _ _ z1).mono ?_; rw [ht]; rintro e w1 ⟨rfl, hb1⟩; have x1 := (hb1.cell (p := ⟨w.heap.size, 1, none⟩) bl).trans b1) | (go_at_call 117; refine (specVis _ _ z2).mono ?_; rw [hv]; rintro e w2 ⟨rfl, rfl⟩)) | fail
      all_goals
        go_wp2
        go_ret
        exact ⟨ret_bool HN.out, hbb.trans ((show Below (w.alloc (.cells #[.string f.1, .string f.2] 105)).heap.size (w.alloc (.cells #[.string f.1, .string f.2] 105)) _ from ⟨hb1.os, hb1.tape, hb1.output, hb1.size, hb1.block⟩).mono (Nat.le_of_lt bl))⟩
    | true =>
      have HN : Hid (((trimB f.2).toList == f.2.toList) = fldOk f) := fldOk_same ht hv
      go_enter Tryz.func100, Tryz.ntmps100
      go_wp2
      first | go_region_with (first | (go_at_call 128; refine (specTok _ _ z1).mono ?_; rw [ht]; rintro e w1 ⟨rfl, hb1⟩; have x1 := (hb1.cell (p := ⟨w.heap.size, 1, none⟩) bl).trans b1) | (go_at_call 117; refine (specVis _ _ z2).mono ?_; rw [hv]; rintro e w2 ⟨rfl, rfl⟩) | (go_at_call 107; refine (specTrim _ _ h2).mono ?_; rintro e w3 ⟨rfl, rfl⟩)) | fail
      all_goals
        go_wp2
        go_ret
        exact ⟨ret_bool HN.out, hbb.trans ((show Below (w.alloc (.cells #[.string f.1, .string f.2] 105)).heap.size (w.alloc (.cells #[.string f.1, .string f.2] 105)) _ from ⟨hb1.os, hb1.tape, hb1.output, hb1.size, hb1.block⟩).mono (Nat.le_of_lt bl))⟩
end Go.Proofs.YtkaogmdhjcgcdaaGreatDoor
namespace Go.Proofs.YtkaogmdhjcgcdaaGreatDoor
open Go.RowKit Go.Sort

set_option maxHeartbeats 1000000 in
theorem implFld (f : Fl) (w : World) (h1 : f.1.size ≤ 1048576) (h2 : f.2.size ≤ 1048576) :
    Calls Tryz.prog 99 #[.agg #[.string f.1, .string f.2]] w fun e w' => e = .returned (.bool (fldOk f)) ∧ Below w.heap.size w w' := by
  have z1 : f.1.size ≤ maxLen := by unfold maxLen; omega
  have z2 : f.2.size ≤ maxLen := by unfold maxLen; omega
  have b0 := box0 w f 105
  have b1 := box1 w f 105
  have bl := box_lt w (.cells #[.string f.1, .string f.2] 105)
  have hbb := (Below.refl w.heap.size w).alloc (Nat.le_refl _) (.cells #[.string f.1, .string f.2] 105)
  cases ht : tokB f.1 with
  | false =>
    have HN : Hid (false = fldOk f) := fldOk_tok ht
    go_enter Tryz.func99, Tryz.ntmps99
    go_wp2
    first | go_region_with (go_at_call 125; refine (implTok _ _ z1).mono ?_; rw [ht]; rintro e w1 ⟨rfl, hb1⟩) | fail
    all_goals
      go_wp2
      go_ret
      exact ⟨ret_bool HN.out, hbb.trans ((show Below (w.alloc (.cells #[.string f.1, .string f.2] 105)).heap.size (w.alloc (.cells #[.string f.1, .string f.2] 105)) _ from ⟨hb1.os, hb1.tape, hb1.output, hb1.size, hb1.block⟩).mono (Nat.le_of_lt bl))⟩
  | true =>
    cases hv : visB f.2 with
    | false =>
      have HN : Hid (false = fldOk f) := fldOk_vis ht hv
      go_enter Tryz.func99, Tryz.ntmps99
      go_wp2
      first | go_region_with (first | (go_at_call 125; refine (implTok _ _ z1).mono ?_; rw [ht]; rintro e w1 ⟨rfl, hb1⟩; have x1 := (hb1.cell (p := ⟨w.heap.size, 1, none⟩) bl).trans b1; have hb01 := hbb.trans ((show Below (w.alloc (.cells #[.string f.1, .string f.2] 105)).heap.size (w.alloc (.cells #[.string f.1, .string f.2] 105)) w1 from ⟨hb1.os, hb1.tape, hb1.output, hb1.size, hb1.block⟩).mono (Nat.le_of_lt bl)); have bl1 := Nat.lt_of_lt_of_le bl hb1.size) | (go_at_call 126; refine (implVis _ _ z2).mono ?_; rw [hv]; rintro e w2 ⟨rfl, hb2⟩; have x2 := (hb2.cell (p := ⟨w.heap.size, 1, none⟩) bl1).trans x1; have bl2 := Nat.lt_of_lt_of_le bl1 hb2.size; have hb02 := hb01.trans ((show Below w1.heap.size w1 w2 from ⟨hb2.os, hb2.tape, hb2.output, hb2.size, hb2.block⟩).mono hb01.size))) | fail
      all_goals
        go_wp2
        go_ret
        exact ⟨ret_bool HN.out, hb02⟩
    | true =>
      have HN : Hid (((trimB f.2).toList == f.2.toList) = fldOk f) := fldOk_same ht hv
      go_enter Tryz.func99, Tryz.ntmps99
      go_wp2
      first | go_region_with (first | (go_at_call 125; refine (implTok _ _ z1).mono ?_; rw [ht]; rintro e w1 ⟨rfl, hb1⟩; have x1 := (hb1.cell (p := ⟨w.heap.size, 1, none⟩) bl).trans b1; have hb01 := hbb.trans ((show Below (w.alloc (.cells #[.string f.1, .string f.2] 105)).heap.size (w.alloc (.cells #[.string f.1, .string f.2] 105)) w1 from ⟨hb1.os, hb1.tape, hb1.output, hb1.size, hb1.block⟩).mono (Nat.le_of_lt bl)); have bl1 := Nat.lt_of_lt_of_le bl hb1.size) | (go_at_call 126; refine (implVis _ _ z2).mono ?_; rw [hv]; rintro e w2 ⟨rfl, hb2⟩; have x2 := (hb2.cell (p := ⟨w.heap.size, 1, none⟩) bl1).trans x1; have bl2 := Nat.lt_of_lt_of_le bl1 hb2.size; have hb02 := hb01.trans ((show Below w1.heap.size w1 w2 from ⟨hb2.os, hb2.tape, hb2.output, hb2.size, hb2.block⟩).mono hb01.size)) | (go_at_call 127; refine (implTrim _ _ h2).mono ?_; rintro e w3 ⟨rfl, hb3⟩; have x3 := (hb3.cell (p := ⟨w.heap.size, 1, none⟩) bl2).trans x2; have hb03 := hb02.trans ((show Below w2.heap.size w2 w3 from ⟨hb3.os, hb3.tape, hb3.output, hb3.size, hb3.block⟩).mono hb02.size))) | fail
      all_goals
        go_wp2
        go_ret
        exact ⟨ret_bool HN.out, hb03⟩
end Go.Proofs.YtkaogmdhjcgcdaaGreatDoor
namespace Go.Proofs.YtkaogmdhjcgcdaaGreatDoor
open Go.RowKit Go.Sort

set_option maxHeartbeats 400000 in
theorem specOk (v : Value) (l : List Fl) (w : World) (h : Fls w v l) (hz : szL l ≤ 1048576) :
    Calls Tryz.prog 62 #[v] w fun e w' => e = .returned (.bool (fldsOk l)) ∧ Below w.heap.size w w' := by
  obtain ⟨a, cap, rfl, h1, h2, h3⟩ := h
  unfold maxLen at h2
  by_cases hbig : 30 < l.length
  · have HN : Hid (false = fldsOk l) := fldsOk_long hbig
    go_enter Tryz.func62, Tryz.ntmps62
    go_wp2
    go_ret
    exact ⟨ret_bool HN.out, Below.refl _ _⟩
  · have HF : Hid (∀ b, b = l.all fldOk → b = fldsOk l) := fun b => fldsOk_all (by omega) b
    go_enter Tryz.func62, Tryz.ntmps62
    go_wp2
    go_loopw [3] (fun i wr => ∃ (k : Nat), k ≤ l.length ∧ i = .int .i64 k ∧ Hid ((l.take k).all fldOk = true) ∧ Below w.heap.size w wr) (fun i _ => l.length - (intOf i).toNat)
    case atStart => exact ⟨0, Nat.zero_le _, rfl, rfl, Below.refl _ _⟩
    case round =>
      obtain ⟨k, hk, rfl, hall, hb⟩ := hrel
      by_cases hlt : k < l.length
      · obtain ⟨g, o, rfl, hg, hc⟩ := h3 (by omega)
        have c1 := (hb.cell (p := ⟨g, o + k * 2, none⟩) hg).trans (hc k hlt).1
        have c2 := (hb.cell (p := ⟨g, o + k * 2 + 1, none⟩) hg).trans (hc k hlt).2
        have hsz := szL_at hlt
        cases hf : fldOk l[k] with
        | false =>
          have HN : Hid (false = fldsOk l) := HF.out _ (all_no hlt hf)
          generalize l[k] = f at c1 c2 hsz hf
          clear hc h3
          go_wp2_with (go_at_call 100; refine (specFld f _ (by omega) (by omega)).mono ?_; rw [hf]; rintro e w1 ⟨rfl, hb1⟩)
          go_ret
          exact ⟨ret_bool HN.out, hb.trans (hb1.mono hb.size)⟩
        | true =>
          have HN : Hid ((l.take (k + 1)).all fldOk = true) := all_yes hlt hall.out hf
          generalize l[k] = f at c1 c2 hsz hf
          clear hc h3
          go_wp2_with (go_at_call 100; refine (specFld f _ (by omega) (by omega)).mono ?_; rw [hf]; rintro e w1 ⟨rfl, hb1⟩)
          go_roundw
          case rel => exact ⟨k + 1, by omega, by go_num, HN, hb.trans (hb1.mono hb.size)⟩
          case measure => simp [intOf]; omega
      · have HN : Hid (true = fldsOk l) := HF.out _ (all_end hlt hall.out)
        go_wp2
        go_ret
        exact ⟨ret_bool HN.out, hb⟩

set_option maxHeartbeats 400000 in
theorem implOk (v : Value) (l : List Fl) (w : World) (h : Fls w v l) (hz : szL l ≤ 1048576) :
    Calls Tryz.prog 60 #[v] w fun e w' => e = .returned (.bool (fldsOk l)) ∧ Below w.heap.size w w' := by
  obtain ⟨a, cap, rfl, h1, h2, h3⟩ := h
  unfold maxLen at h2
  by_cases hbig : 30 < l.length
  · have HN : Hid (false = fldsOk l) := fldsOk_long hbig
    go_enter Tryz.func60, Tryz.ntmps60
    go_wp2
    go_ret
    exact ⟨ret_bool HN.out, Below.refl _ _⟩
  · have HF : Hid (∀ b, b = l.all fldOk → b = fldsOk l) := fun b => fldsOk_all (by omega) b
    go_enter Tryz.func60, Tryz.ntmps60
    go_wp2
    go_loopw [10] (fun i wr => ∃ (k : Nat), k ≤ l.length ∧ i = .int .i64 k ∧ Hid ((l.take k).all fldOk = true) ∧ Below w.heap.size w wr) (fun i _ => l.length - (intOf i).toNat)
    case atStart => exact ⟨0, Nat.zero_le _, rfl, rfl, Below.refl _ _⟩
    case round =>
      obtain ⟨k, hk, rfl, hall, hb⟩ := hrel
      by_cases hlt : k < l.length
      · obtain ⟨g, o, rfl, hg, hc⟩ := h3 (by omega)
        have c1 := (hb.cell (p := ⟨g, o + k * 2, none⟩) hg).trans (hc k hlt).1
        have c2 := (hb.cell (p := ⟨g, o + k * 2 + 1, none⟩) hg).trans (hc k hlt).2
        have hsz := szL_at hlt
        cases hf : fldOk l[k] with
        | false =>
          have HN : Hid (false = fldsOk l) := HF.out _ (all_no hlt hf)
          generalize l[k] = f at c1 c2 hsz hf
          clear hc h3
          go_wp2_with (go_at_call 99; refine (implFld f _ (by omega) (by omega)).mono ?_; rw [hf]; rintro e w1 ⟨rfl, hb1⟩)
          go_ret
          exact ⟨ret_bool HN.out, (hb.alloc hb.size _).trans (hb1.mono (by have := hb.size; simp; omega))⟩
        | true =>
          have HN : Hid ((l.take (k + 1)).all fldOk = true) := all_yes hlt hall.out hf
          generalize l[k] = f at c1 c2 hsz hf
          clear hc h3
          go_wp2_with (go_at_call 99; refine (implFld f _ (by omega) (by omega)).mono ?_; rw [hf]; rintro e w1 ⟨rfl, hb1⟩)
          go_roundw
          case rel => exact ⟨k + 1, by omega, by go_num, HN, (hb.alloc hb.size _).trans (hb1.mono (by have := hb.size; simp; omega))⟩
          case measure => simp [intOf]; omega
      · have HN : Hid (true = fldsOk l) := HF.out _ (all_end hlt hall.out)
        go_wp2
        go_ret
        exact ⟨ret_bool HN.out, hb⟩
end Go.Proofs.YtkaogmdhjcgcdaaGreatDoor
namespace Go.Proofs.YtkaogmdhjcgcdaaGreatDoor
open Go.RowKit

theorem wpList_pushStr {ops : Array Oper} {rest : List Oper} {o : Oper} {a : Act} {Q : Exit → Act → World → Prop} (w : World) (hgd : o.guard = none) (s x : Operand)
    (ho : o.op = .call { callee := .builtin .append, args := #[s, x], argTypes := #[22, 9] }) (B : Nat) (v : Value) (l : List UInt8) (t : ByteArray) (hs : a.eval s = v) (hown : OwnsB w B v l)
    (hx : a.eval x = .string t) (hlen : l.length + t.size ≤ 1000000) (hB : B ≤ w.heap.size)
    (h : ∀ v' w', OwnsB w' B v' (l ++ t.data.toList) → w.grownBy w' v.ownBlock → wpList Tryz.prog ops Q rest (a.put o.dst v') w') :
    wpList Tryz.prog ops Q (o :: rest) a w := by
  obtain ⟨i0, hi, hz0, hz1, hz2⟩ := info_parts Tryz.info5
  refine Lib.wpList_append_own_string _ hgd s x 22 9 ho B 5 i0 Tryz.underlying22 Tryz.underlying9 hi hz0 hz1 hz2 v l.length (bytesV l) hs hown t hx (by unfold maxLen; omega) (by omega) hB ?_
  intro v' w' h1 h2 _
  refine h v' w' ?_ h2
  unfold OwnsB
  have e : bytesV (l ++ t.data.toList) = bytesV l ++ Lib.strCells t := by
    unfold bytesV Lib.strCells
    rw [List.map_append]
  rw [e, List.length_append, show t.data.toList.length = t.size from by simp]
  exact h1
theorem grown_cell {w w' : World} {r : Option Nat} {b j : Nat} {v : Value} (h : w.grownBy w' r) (hc : w.cell? ⟨b, j, none⟩ = some v) (hb : b < w.heap.size) (hne : ∀ k, r = some k → k ≠ b) : w'.cell? ⟨b, j, none⟩ = some v := by
  rw [← hc]
  simp only [World.cell?]
  rw [h.block b hb (fun e => hne b e.symm rfl)]
theorem OwnsB.under {w : World} {B : Nat} {v : Value} {l : List UInt8} (h : OwnsB w B v l) : ∀ k, v.ownBlock = some k → k < w.heap.size := fun k hk => (World.ownsRow.lt h k hk).2
end Go.Proofs.YtkaogmdhjcgcdaaGreatDoor
