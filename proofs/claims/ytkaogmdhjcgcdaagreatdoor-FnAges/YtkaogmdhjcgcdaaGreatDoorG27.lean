/-
  A row of numbers that a call makes and appends to.
  A date read: the specification's contract.
  Moments: the specification's and the program's contracts.
  The specification's policy by its contracts: keys, moments, what is a right object.
  The specification's policy by its contracts: the control, the tag and the dates of fields; how long a response is fresh.
  The contracts of the drawing functions: whatever the code, they answer, and what they answer lies in its range.
  The contracts of the drawing functions that lean on one drawn byte: a number below a bound, a chance, a text.
-/
import Derived.Test.YtkaogmdhjcgcdaaGreatDoorG21
import Derived.WalkKit
import Derived.WalkSpells
import Derived.Lib.OthersKept
import Derived.BigQuiet
import Derived.Deep.QuietTactic
import Derived.Test.YtkaogmdhjcgcdaaGreatDoorG20
import Derived.Test.YtkaogmdhjcgcdaaGreatDoorG08
import Derived.Test.YtkaogmdhjcgcdaaGreatDoorG22
import Derived.Test.YtkaogmdhjcgcdaaGreatDoorG23
import Derived.ProofKit
import Derived.OpenShut
import Derived.ShutString
import Derived.Lib.SmallJoins
import Derived.Test.YtkaogmdhjcgcdaaGreatDoorG26
import Derived.Test.YtkaogmdhjcgcdaaGreatDoorRows
import Derived.Laws.BitsLemmas
import Derived.Laws.Pointers
import Derived.Laws.IdiomStrings
import Derived.Test.YtkaogmdhjcgcdaaGreatDoorG04
namespace Go.Proofs.YtkaogmdhjcgcdaaGreatDoor.Dd
open Go.RowKit Go.Sort

theorem info2 : (Tryz.prog.info? 2).map (fun i => (i.zero, i.size, i.bytes)) = some (some (.int .i64 0), 1, 8) := by kernel_rfl
/-- Numbers as cells. -/
def intsV (l : List Int) : List Value := l.map fun c => .int .i64 c
/-- The value v owns the numbers l, in a block from B on. -/
def OwnsI (w : World) (B : Nat) (v : Value) (l : List Int) : Prop := w.ownsRow B 2 1 v l.length (intsV l)
theorem OwnsI.empty (w : World) : OwnsI (w.alloc (.cells #[] 2)) w.heap.size (.slice (some ⟨w.heap.size, 0, none⟩) 0 0) [] :=
  World.ownsRow_lit w #[] 0 (Nat.le_refl _) (by unfold maxLen; decide) rfl
theorem OwnsI.alloc {w : World} {B : Nat} {v : Value} {l : List Int} (h : OwnsI w B v l) (o : Obj) : OwnsI (w.alloc o) B v l := World.ownsRow.alloc h o
theorem OwnsI.kept {w w' : World} {B : Nat} {v : Value} {l : List Int} (h : OwnsI w B v l) (hb : Below w.heap.size w w') : OwnsI w' B v l := by
  refine ⟨h.1, ?_⟩
  rcases h.2 with h0 | ⟨g, cap, cur, hv, hB, hg, rest⟩
  · exact .inl h0
  · exact .inr ⟨g, cap, cur, hv, hB, (hb.block g (Array.getElem?_eq_some_iff.1 hg).1).trans hg, rest⟩
/-- The owned block is none of another type. -/
theorem OwnsI.not {w : World} {B : Nat} {v : Value} {l : List Int} (h : OwnsI w B v l) {k : Nat} {C : Array Value} {fr : Nat × Nat} (hk : w.heap[k]? = some (.cells C 3 fr)) : some k ≠ v.ownBlock := by
  rcases h.2 with ⟨rfl, _⟩ | ⟨g, cap, cur, rfl, hB, hg, rest⟩
  · intro e; cases e
  · intro e
    have e' : k = g := Option.some.inj e
    rw [e', hg] at hk
    cases hk
theorem OwnsI.from {w : World} {B : Nat} {v : Value} {l : List Int} (h : OwnsI w B v l) : ∀ k, v.ownBlock = some k → B ≤ k := fun k hk => (World.ownsRow.lt h k hk).1
/-- One number appended. -/
theorem wpList_pushI {ops : Array Oper} {rest : List Oper} {o : Oper} {a : Act} {Q : Exit → Act → World → Prop} (w : World) (hgd : o.guard = none) (s x : Operand)
    (ho : o.op = .call { callee := .builtin .append, args := #[s, x], argTypes := #[96, 96] }) (B : Nat) (v : Value) (l : List Int) (c : Int) (hs : a.eval s = v) (hown : OwnsI w B v l)
    (hx : a.eval x = .slice (some ⟨w.heap.size, 0, none⟩) 1 1) (hlen : l.length ≤ 7) (hB : B ≤ w.heap.size)
    (h : ∀ v' w', OwnsI w' B v' (l ++ [c]) → w.grownBy w' v.ownBlock → wpList Tryz.prog ops Q rest (a.put o.dst v') w') :
    wpList Tryz.prog ops Q (o :: rest) a (w.alloc (.cells #[.int .i64 c] 2)) := by
  obtain ⟨i0, hi, hz0, hz1, hz2⟩ := info_parts info2
  refine wpList_append_own _ hgd s x 96 ho B 2 i0 (.int .i64 0) 1 8 Tryz.underlying96 hi hz0 hz1 hz2 rfl (by decide) v l.length (intsV l) hs (OwnsI.alloc hown _) ⟨w.heap.size, 0, none⟩ 1 1 [.int .i64 c] hx rfl (cell_one_new _ _ _)
    (by intro u hu; simp at hu; subst hu; rfl) (by unfold maxLen; omega) (by omega) (by simp; omega) ?_
  intro v' w' h1 h2 _
  refine h v' w' ?_ ⟨h2.os, h2.tape, h2.output, ?_, ?_⟩
  · unfold OwnsI intsV
    rw [List.map_append, List.length_append]
    exact h1
  · have := h2.size
    simp at this
    omega
  · intro k hk hne
    rw [h2.block k (by simp; omega) hne]
    exact Below.heap_alloc _ _ _ hk
theorem OwnsI.six {w : World} {B : Nat} {v : Value} {a b c d e f : Int} (h : OwnsI w B v [a, b, c, d, e, f]) : ∃ g cap, v = .slice (some ⟨g, 0, none⟩) 6 cap ∧ B ≤ g ∧ w.cell? ⟨g, 0, none⟩ = some (.int .i64 a) ∧ w.cell? ⟨g, 1, none⟩ = some (.int .i64 b) ∧ w.cell? ⟨g, 2, none⟩ = some (.int .i64 c) ∧ w.cell? ⟨g, 3, none⟩ = some (.int .i64 d) ∧ w.cell? ⟨g, 4, none⟩ = some (.int .i64 e) ∧ w.cell? ⟨g, 5, none⟩ = some (.int .i64 f) := by
  have hc := h
  rcases h.2 with ⟨_, hn⟩ | ⟨g, cap, cur, rfl, hB, hg, rest⟩
  · cases hn
  · have k := World.ownsRow.cells hc (g := g) rfl
    exact ⟨g, cap, rfl, hB, k 0 _ rfl, k 1 _ rfl, k 2 _ rfl, k 3 _ rfl, k 4 _ rfl, k 5 _ rfl⟩

/-- A date in a block that is not frozen. -/
def Fb (x : World) (g : Nat) (y m d h i s : Int) : Prop := Dt x g y m d h i s ∧ ∀ j, x.frozen? ⟨g, j, none⟩ = false
theorem Fb.below {x x' : World} {g B : Nat} {y m d h i s : Int} (k : Fb x g y m d h i s) (hb : Below B x x') (hg : g < B) : Fb x' g y m d h i s := ⟨k.1.below hb hg, fun j => (hb.frozen (p := ⟨g, j, none⟩) hg).trans (k.2 j)⟩
theorem Fb.born (w : World) (t : TypeId) : Fb (w.alloc (.cells #[.int .i64 0, .int .i64 0, .int .i64 0, .int .i64 0, .int .i64 0, .int .i64 0] t)) w.heap.size 0 0 0 0 0 0 := ⟨Dt.born w t 0 0 0 0 0 0, fun j => boxFree (Grew.refl _) j⟩
theorem Fb.month {x : World} {g : Nat} {y m d h i s : Int} (k : Fb x g y m d h i s) (m' : Int) : Fb (x.setCell ⟨g, 1, none⟩ (.int .i64 m')) g y m' d h i s := by
  obtain ⟨⟨hz, c0, c1, c2, c3, c4, c5⟩, hf⟩ := k
  refine ⟨⟨by simpa [World.setCell] using hz, ?_, ?_, ?_, ?_, ?_, ?_⟩, fun j => by rw [World.frozen?_setCell]; exact hf j⟩
  all_goals simp [go_sem, c0, c1, c2, c3, c4, c5]
/-- The month as far as names were looked at. -/
def mcur (t : ByteArray) (k : Int) : Int := if monV t < k then monV t else 0
theorem mcur_one (t : ByteArray) : mcur t 1 = 0 := by
  have := monV_bd t
  unfold mcur; split <;> omega
theorem mcur_yes {t : ByteArray} {k : Int} (h : monV t = k) : mcur t (k + 1) = k := by unfold mcur; rw [if_pos (by omega)]; exact h
theorem mcur_no {t : ByteArray} {k : Int} (h : monV t ≠ k) : mcur t (k + 1) = mcur t k := by unfold mcur; by_cases e : monV t < k; (· rw [if_pos e, if_pos (by omega)]); rw [if_neg e, if_neg (by omega)]
theorem mcur_all (t : ByteArray) : mcur t 13 = monV t := by
  have := monV_bd t
  unfold mcur; rw [if_pos (by omega)]
end Go.Proofs.YtkaogmdhjcgcdaaGreatDoor.Dd
namespace Go.Proofs.YtkaogmdhjcgcdaaGreatDoor.Dd
open Go.RowKit Go.Sort

/-- The numbers at the fixed places. -/
def nums (t : ByteArray) : List Int := [numV 10 15 (t.extract 5 7), numV 10 15 (t.extract 12 14), numV 10 15 (t.extract 14 16), numV 10 15 (t.extract 17 19), numV 10 15 (t.extract 20 22), numV 10 15 (t.extract 23 25)]


theorem cell_of {w : World} {k j : Nat} {C : Array Value} {t : TypeId} {fr : Nat × Nat} {v : Value} (h : w.heap[k]? = some (.cells C t fr)) (hv : C[j]? = some v) : w.cell? ⟨k, j, none⟩ = some v := by
  simp [World.cell?, h, hv]
theorem heapLt {w : World} {k : Nat} {o : Obj} (h : w.heap[k]? = some o) : k < w.heap.size := (Array.getElem?_eq_some_iff.1 h).1

theorem drewB {B : Nat} {w x : World} (h : Below B w x) : Below B w x.drew := ⟨h.os, h.tape, h.output, h.size, h.block⟩
theorem Dt.drew {x : World} {g : Nat} {y m d h i s : Int} (k : Dt x g y m d h i s) : Dt x.drew g y m d h i s := k
theorem Fb.fiveD {x : World} {g : Nat} {y m d h i s : Int} (k : Fb x g y m d h i s) (y' d' h' i' s' : Int) : Dt (((((x.setCell ⟨g, 2, none⟩ (.int .i64 d')).setCell ⟨g, 0, none⟩ (.int .i64 y')).setCell ⟨g, 3, none⟩ (.int .i64 h')).setCell ⟨g, 4, none⟩ (.int .i64 i')).setCell ⟨g, 5, none⟩ (.int .i64 s')) g y' m d' h' i' s' := by
  obtain ⟨⟨hz, c0, c1, c2, c3, c4, c5⟩, _⟩ := k
  refine ⟨by simpa [World.setCell] using hz, ?_, ?_, ?_, ?_, ?_, ?_⟩
  all_goals simp [go_sem, c0, c1, c2, c3, c4, c5]
theorem Fb.five {x : World} {g : Nat} {y m d h i s : Int} (k : Fb x g y m d h i s) (y' d' h' i' s' : Int) : Dt ((((((x.setCell ⟨g, 2, none⟩ (.int .i64 d')).setCell ⟨g, 0, none⟩ (.int .i64 y')).setCell ⟨g, 3, none⟩ (.int .i64 h')).setCell ⟨g, 4, none⟩ (.int .i64 i')).setCell ⟨g, 5, none⟩ (.int .i64 s')).drew) g y' m d' h' i' s' := (k.fiveD y' d' h' i' s').drew
theorem fiveB {B g : Nat} {w x : World} (h : Below B w x) (hg : B ≤ g) (v0 v1 v2 v3 v4 : Value) : Below B w ((((((x.setCell ⟨g, 2, none⟩ v0).setCell ⟨g, 0, none⟩ v1).setCell ⟨g, 3, none⟩ v2).setCell ⟨g, 4, none⟩ v3).setCell ⟨g, 5, none⟩ v4).drew) :=
  drewB (((((h.setCell hg _).setCell hg _).setCell hg _).setCell hg _).setCell hg _)
theorem puts6 (w : World) {B g : Nat} (h : B ≤ g) (v0 v1 v2 v3 v4 v5 : Value) : Below B w ((((((w.setCell ⟨g, 0, none⟩ v0).setCell ⟨g, 1, none⟩ v1).setCell ⟨g, 2, none⟩ v2).setCell ⟨g, 3, none⟩ v3).setCell ⟨g, 4, none⟩ v4).setCell ⟨g, 5, none⟩ v5) :=
  ((((((Below.refl B w).setCell h _).setCell h _).setCell h _).setCell h _).setCell h _).setCell h _
theorem numV_in (s : ByteArray) : 0 ≤ numV 10 15 s ∧ numV 10 15 s ≤ 1000000000000000 := by
  by_cases ok : numOk 10 15 s = true
  · rw [num_yes ok]
    unfold numOk at ok
    rw [Bool.and_eq_true] at ok
    have h1 := of_decide_eq_true ok.1
    have e := take_all s s.size (by omega)
    have h2 := num_bound10 (s := s) (k := s.size) h1.2 (Nat.le_refl _) (by rw [e]; exact ok.2)
    rw [e] at h2
    exact h2
  · rw [num_no (by simpa using ok)]
    omega

set_option maxHeartbeats 8000000 in
theorem specRead_x (t : ByteArray) (w : World) (hz : t.size = 29) :
    Calls Tryz.prog 92 #[.string t] w fun e w' => (∃ v, e = .returned v ∧ ReadIs t v) ∧ Below w.heap.size w w' := by
  have hsz : ∀ a b, (t.extract a b).size ≤ maxLen := fun a b => by rw [ByteArray.size_extract]; unfold maxLen; omega
  go_enter Tryz.func92, Tryz.ntmps92
  go_wp2_with fail
  go_loopw [5] (fun v wr => ∃ k : Int, v = .int .i64 k ∧ 1 ≤ k ∧ k ≤ 13 ∧ Fb wr (w.heap.size + 1) 0 (mcur (t.extract 8 11) k) 0 0 0 0 ∧ Below (w.heap.size + 1) (w.alloc (.cells #[.int .i64 0, .int .i64 0, .int .i64 0, .int .i64 0, .int .i64 0, .int .i64 0] 121)) wr) (fun v _ => (14 - intOf v).toNat)
  case atStart =>
    refine ⟨1, rfl, by omega, by omega, ?_, ?_⟩
    · rw [mcur_one]
      have := Fb.born (w.alloc (.cells #[.int .i64 0, .int .i64 0, .int .i64 0, .int .i64 0, .int .i64 0, .int .i64 0] 121)) 121
      simpa using this
    · exact (Below.refl _ _).alloc (by simp) _
  case round =>
    obtain ⟨k, rfl, hk1, hk2, hF, hlow⟩ := hrel
    by_cases hle : k ≤ 12
    · obtain ⟨⟨hgz, c0, c1, c2, c3, c4, c5⟩, hf⟩ := id hF
      have f1 := hf 1
      by_cases he : moN k = t.extract 8 11
      · have hq := bytes_eq he
        have HV : Hid (mcur (t.extract 8 11) (k + 1) = k) := mcur_yes (monV_yes hk1 hle he)
        clear he hf
        go_wp2_with fail
        go_quiet ((go_at_call 120; refine Calls.quiet_of_same ((specMoN _ _ hk1 hle).mono fun _ _ h => ⟨h.1, h.2.symm⟩)))
        go_wp2
        go_roundw
        case rel => exact ⟨k + 1, rfl, by omega, by omega, by rw [HV.out]; exact (show Fb (wr.drewN nq) _ _ _ _ _ _ _ from hF).month k, (show Below _ _ (wr.drewN nq) from ⟨hlow.os, hlow.tape, hlow.output, hlow.size, hlow.block⟩).setCell (Nat.le_refl _) _⟩
        case measure => simp [intOf]; omega
      · have hq := bytes_ne he
        have HV : Hid (mcur (t.extract 8 11) (k + 1) = mcur (t.extract 8 11) k) := mcur_no (monV_not hk1 he)
        clear he hf
        go_wp2_with fail
        go_quiet ((go_at_call 120; refine Calls.quiet_of_same ((specMoN _ _ hk1 hle).mono fun _ _ h => ⟨h.1, h.2.symm⟩)))
        go_wp2
        go_roundw
        case rel => exact ⟨k + 1, rfl, by omega, by omega, by rw [HV.out]; exact hF, ⟨hlow.os, hlow.tape, hlow.output, hlow.size, hlow.block⟩⟩
        case measure => simp [intOf]; omega
    · obtain rfl : k = 13 := by omega
      rw [mcur_all] at hF
      have hlowR := hlow
      clear hlow
      have hz1 : w.heap.size + 1 < wr.heap.size := hF.1.1
      rename World => W1
      go_wp2_with fail
      go_loopw [6, 30] (fun v k wr => ∃ j : Nat, j ≤ 6 ∧ k = .int .i64 (j : Int) ∧ OwnsI wr W1.heap.size v ((nums t).take j) ∧ wr.heap[W1.heap.size + 1]? = some (.cells #[.int .i64 5, .int .i64 12, .int .i64 14, .int .i64 17, .int .i64 20, .int .i64 23] 3 (0, 0)) ∧ Below W1.heap.size W1 wr) (fun _ k _ => (6 - intOf k).toNat)
      case atStart =>
        refine ⟨0, by omega, rfl, (OwnsI.empty W1).alloc _, ?_, ?_⟩
        · have := heap_alloc_new (W1.alloc (.cells #[] 2)) (.cells #[.int .i64 5, .int .i64 12, .int .i64 14, .int .i64 17, .int .i64 20, .int .i64 23] 3)
          simpa using this
        · exact ((Below.refl _ _).alloc (Nat.le_refl _) _).alloc (by simp) _
      case round =>
      obtain ⟨j, hj, rfl, hown, hT, hlow2⟩ := hrel
      have hlow := hlow2
      clear hlow2
      rcases (show j = 0 ∨ j = 1 ∨ j = 2 ∨ j = 3 ∨ j = 4 ∨ j = 5 ∨ j = 6 from by omega) with rfl | rfl | rfl | rfl | rfl | rfl | rfl
      · have cT : wr.cell? ⟨W1.heap.size + 1, 0, none⟩ = some (.int .i64 5) := cell_of hT rfl
        go_wp2_with (first | (go_at_call 50; (refine (specDig _ _ (hsz _ _)).mono ?_; rintro e x2 ⟨rfl, hb2⟩; unfold numE; replace hown := hown.kept hb2.low; replace hT := (hb2.1.block _ (heapLt hT)).trans hT; replace hlow := hlow.trans (Go.Joins.below_le hb2.low hlow.size); clear hb2 cT)) | (at_builtin; refine wpList_pushI _ rfl (.tmp 43) (.tmp 45) rfl W1.heap.size _ _ _ rfl hown rfl (by simp [nums]) (by have := hlow.size; omega) ?_; intro v2 w2 ho2 hg2))
        go_roundw
        case rel => exact ⟨1, by omega, by go_num, ho2, (hg2.block _ (heapLt hT) (hown.not hT)).trans hT, hlow.grown hg2 hlow.size hown.from⟩
        case measure => simp [intOf]
      · have cT : wr.cell? ⟨W1.heap.size + 1, 1, none⟩ = some (.int .i64 12) := cell_of hT rfl
        go_wp2_with (first | (go_at_call 50; (refine (specDig _ _ (hsz _ _)).mono ?_; rintro e x2 ⟨rfl, hb2⟩; unfold numE; replace hown := hown.kept hb2.low; replace hT := (hb2.1.block _ (heapLt hT)).trans hT; replace hlow := hlow.trans (Go.Joins.below_le hb2.low hlow.size); clear hb2 cT)) | (at_builtin; refine wpList_pushI _ rfl (.tmp 43) (.tmp 45) rfl W1.heap.size _ _ _ rfl hown rfl (by simp [nums]) (by have := hlow.size; omega) ?_; intro v2 w2 ho2 hg2))
        go_roundw
        case rel => exact ⟨2, by omega, by go_num, ho2, (hg2.block _ (heapLt hT) (hown.not hT)).trans hT, hlow.grown hg2 hlow.size hown.from⟩
        case measure => simp [intOf]
      · have cT : wr.cell? ⟨W1.heap.size + 1, 2, none⟩ = some (.int .i64 14) := cell_of hT rfl
        go_wp2_with (first | (go_at_call 50; (refine (specDig _ _ (hsz _ _)).mono ?_; rintro e x2 ⟨rfl, hb2⟩; unfold numE; replace hown := hown.kept hb2.low; replace hT := (hb2.1.block _ (heapLt hT)).trans hT; replace hlow := hlow.trans (Go.Joins.below_le hb2.low hlow.size); clear hb2 cT)) | (at_builtin; refine wpList_pushI _ rfl (.tmp 43) (.tmp 45) rfl W1.heap.size _ _ _ rfl hown rfl (by simp [nums]) (by have := hlow.size; omega) ?_; intro v2 w2 ho2 hg2))
        go_roundw
        case rel => exact ⟨3, by omega, by go_num, ho2, (hg2.block _ (heapLt hT) (hown.not hT)).trans hT, hlow.grown hg2 hlow.size hown.from⟩
        case measure => simp [intOf]
      · have cT : wr.cell? ⟨W1.heap.size + 1, 3, none⟩ = some (.int .i64 17) := cell_of hT rfl
        go_wp2_with (first | (go_at_call 50; (refine (specDig _ _ (hsz _ _)).mono ?_; rintro e x2 ⟨rfl, hb2⟩; unfold numE; replace hown := hown.kept hb2.low; replace hT := (hb2.1.block _ (heapLt hT)).trans hT; replace hlow := hlow.trans (Go.Joins.below_le hb2.low hlow.size); clear hb2 cT)) | (at_builtin; refine wpList_pushI _ rfl (.tmp 43) (.tmp 45) rfl W1.heap.size _ _ _ rfl hown rfl (by simp [nums]) (by have := hlow.size; omega) ?_; intro v2 w2 ho2 hg2))
        go_roundw
        case rel => exact ⟨4, by omega, by go_num, ho2, (hg2.block _ (heapLt hT) (hown.not hT)).trans hT, hlow.grown hg2 hlow.size hown.from⟩
        case measure => simp [intOf]
      · have cT : wr.cell? ⟨W1.heap.size + 1, 4, none⟩ = some (.int .i64 20) := cell_of hT rfl
        go_wp2_with (first | (go_at_call 50; (refine (specDig _ _ (hsz _ _)).mono ?_; rintro e x2 ⟨rfl, hb2⟩; unfold numE; replace hown := hown.kept hb2.low; replace hT := (hb2.1.block _ (heapLt hT)).trans hT; replace hlow := hlow.trans (Go.Joins.below_le hb2.low hlow.size); clear hb2 cT)) | (at_builtin; refine wpList_pushI _ rfl (.tmp 43) (.tmp 45) rfl W1.heap.size _ _ _ rfl hown rfl (by simp [nums]) (by have := hlow.size; omega) ?_; intro v2 w2 ho2 hg2))
        go_roundw
        case rel => exact ⟨5, by omega, by go_num, ho2, (hg2.block _ (heapLt hT) (hown.not hT)).trans hT, hlow.grown hg2 hlow.size hown.from⟩
        case measure => simp [intOf]
      · have cT : wr.cell? ⟨W1.heap.size + 1, 5, none⟩ = some (.int .i64 23) := cell_of hT rfl
        go_wp2_with (first | (go_at_call 50; (refine (specDig _ _ (hsz _ _)).mono ?_; rintro e x2 ⟨rfl, hb2⟩; unfold numE; replace hown := hown.kept hb2.low; replace hT := (hb2.1.block _ (heapLt hT)).trans hT; replace hlow := hlow.trans (Go.Joins.below_le hb2.low hlow.size); clear hb2 cT)) | (at_builtin; refine wpList_pushI _ rfl (.tmp 43) (.tmp 45) rfl W1.heap.size _ _ _ rfl hown rfl (by simp [nums]) (by have := hlow.size; omega) ?_; intro v2 w2 ho2 hg2))
        go_roundw
        case rel => exact ⟨6, by omega, by go_num, ho2, (hg2.block _ (heapLt hT) (hown.not hT)).trans hT, hlow.grown hg2 hlow.size hown.from⟩
        case measure => simp [intOf]
      · have hown6 : OwnsI wr W1.heap.size u6 [numV 10 15 (t.extract 5 7), numV 10 15 (t.extract 12 14), numV 10 15 (t.extract 14 16), numV 10 15 (t.extract 17 19), numV 10 15 (t.extract 20 22), numV 10 15 (t.extract 23 25)] := hown
        clear hown
        have hown := hown6
        clear hown6
        have HP : Hid (∀ y m d h i s : Int, okD y m d h i s → showA y m d h i s = t → 100 * (numV 10 15 (t.extract 12 14)) + (numV 10 15 (t.extract 14 16)) = y ∧ monV (t.extract 8 11) = m ∧ (numV 10 15 (t.extract 5 7)) = d ∧ (numV 10 15 (t.extract 17 19)) = h ∧ (numV 10 15 (t.extract 20 22)) = i ∧ (numV 10 15 (t.extract 23 25)) = s) := fun y m d h i s ok e => by
          obtain ⟨_, a2, a3, a4, a5, a6, a7, a8⟩ := parts_of ok e
          exact ⟨by rw [a7, a8]; omega, a2, a3, a4, a5, a6⟩
        have b5 := numV_in (t.extract 5 7)
        have b12 := numV_in (t.extract 12 14)
        have b14 := numV_in (t.extract 14 16)
        have b17 := numV_in (t.extract 17 19)
        have b20 := numV_in (t.extract 20 22)
        have b23 := numV_in (t.extract 23 25)
        generalize numV 10 15 (t.extract 5 7) = p5 at hown HP b5
        generalize numV 10 15 (t.extract 12 14) = p12 at hown HP b12
        generalize numV 10 15 (t.extract 14 16) = p14 at hown HP b14
        generalize numV 10 15 (t.extract 17 19) = p17 at hown HP b17
        generalize numV 10 15 (t.extract 20 22) = p20 at hown HP b20
        generalize numV 10 15 (t.extract 23 25) = p23 at hown HP b23
        generalize monV (t.extract 8 11) = mo at hF HP
        obtain ⟨gn, cap, hv, hgn, n0, n1, n2, n3, n4, n5⟩ := hown.six
        subst hv
        have hF2 := hF.below hlow (show w.heap.size + 1 < W1.heap.size from hz1)
        have hR : Below (w.heap.size + 1) (w.alloc (.cells #[.int .i64 0, .int .i64 0, .int .i64 0, .int .i64 0, .int .i64 0, .int .i64 0] 121)) wr := hlowR.trans (Go.Joins.below_le hlow (by omega))
        obtain ⟨⟨hg2, c0, c1, c2, c3, c4, c5⟩, hf⟩ := id hF2
        have f0 := hf 0
        have f1 := hf 1
        have f2 := hf 2
        have f3 := hf 3
        have f4 := hf 4
        have f5 := hf 5
        have hne : gn ≠ w.heap.size + 1 := by omega
        have hne' : w.heap.size + 1 ≠ gn := by omega
        clear hown hT hf hF hlow hlowR hz1 hgn
        go_wp2_with fail
        go_region
        by_cases he : showV (100 * p12 + p14) mo p5 p17 p20 p23 = t
        · have hq := bytes_eq he
          have HE : Hid (okD (100 * p12 + p14) mo p5 p17 p20 p23 ∧ showA (100 * p12 + p14) mo p5 p17 p20 p23 = t) := showV_full hz he
          clear he hz
          go_wp2_with fail
          refine (specShow _ _ _ _ _ _ _).mono ?_
          rintro e x3 ⟨rfl, hb3⟩
          have D3 : Dt x3 (w.heap.size + 1) (100 * p12 + p14) mo p5 p17 p20 p23 := (hF2.five (100 * p12 + p14) p5 p17 p20 p23).grew hb3
          have R3 : Below (w.heap.size + 1) (w.alloc (.cells #[.int .i64 0, .int .i64 0, .int .i64 0, .int .i64 0, .int .i64 0, .int .i64 0] 121)) x3 := (fiveB hR (Nat.le_refl _) _ _ _ _ _).trans (Go.Joins.below_le hb3.low (by have := hR.size; simp [World.setCell] at this ⊢; omega))
          obtain ⟨_, q0, q1, q2, q3, q4, q5⟩ := D3
          obtain ⟨⟨_, r0, r1, r2, r3, r4, r5⟩, rf⟩ := (Fb.born w 121).below R3 (Nat.lt_succ_self _)
          have g0 := rf 0
          have g1 := rf 1
          have g2 := rf 2
          have g3 := rf 3
          have g4 := rf 4
          have g5 := rf 5
          clear hb3 rf hF2 hR
          have B3 : Below w.heap.size w x3 := ((Below.refl w.heap.size w).alloc (Nat.le_refl _) _).trans (Go.Joins.below_le R3 (Nat.le_succ _))
          clear R3
          go_wp2
          refine bodyPost_ret (v := .tuple #[.agg #[.int .i64 (100 * p12 + p14), .int .i64 mo, .int .i64 p5, .int .i64 p17, .int .i64 p20, .int .i64 p23], .bool true]) (by simp [results, Tryz.results92, go_sem, r0, r1, r2, r3, r4, r5]) rfl ⟨⟨_, rfl, .inl ⟨_, _, _, _, _, _, HE.out.1, HE.out.2, rfl⟩⟩, ?_⟩
          exact B3.trans (puts6 _ (Nat.le_refl _) _ _ _ _ _ _)
        · have hq := bytes_ne he
          have HE : Hid (∀ y m d h i s : Int, okD y m d h i s → showA y m d h i s ≠ t) := fun y' m' d' h' i' s' ok' e' => by
            obtain ⟨rfl, rfl, rfl, rfl, rfl, rfl⟩ := HP.out y' m' d' h' i' s' ok' e'
            exact he ((showV_of ok').trans e')
          clear he hz
          go_wp2_with fail
          refine (specShow _ _ _ _ _ _ _).mono ?_
          rintro e x3 ⟨rfl, hb3⟩
          have D3 : Dt x3 (w.heap.size + 1) (100 * p12 + p14) mo p5 p17 p20 p23 := (hF2.five (100 * p12 + p14) p5 p17 p20 p23).grew hb3
          have R3 : Below (w.heap.size + 1) (w.alloc (.cells #[.int .i64 0, .int .i64 0, .int .i64 0, .int .i64 0, .int .i64 0, .int .i64 0] 121)) x3 := (fiveB hR (Nat.le_refl _) _ _ _ _ _).trans (Go.Joins.below_le hb3.low (by have := hR.size; simp [World.setCell] at this ⊢; omega))
          obtain ⟨_, q0, q1, q2, q3, q4, q5⟩ := D3
          obtain ⟨⟨_, r0, r1, r2, r3, r4, r5⟩, rf⟩ := (Fb.born w 121).below R3 (Nat.lt_succ_self _)
          have g0 := rf 0
          have g1 := rf 1
          have g2 := rf 2
          have g3 := rf 3
          have g4 := rf 4
          have g5 := rf 5
          clear hb3 rf hF2 hR
          have B3 : Below w.heap.size w x3 := ((Below.refl w.heap.size w).alloc (Nat.le_refl _) _).trans (Go.Joins.below_le R3 (Nat.le_succ _))
          clear R3
          go_wp2
          refine bodyPost_ret (v := .tuple #[.agg #[.int .i64 0, .int .i64 0, .int .i64 0, .int .i64 0, .int .i64 0, .int .i64 0], .bool false]) (by simp [results, Tryz.results92, go_sem, r0, r1, r2, r3, r4, r5]) rfl ⟨⟨_, rfl, .inr ⟨HE.out, rfl⟩⟩, ?_⟩
          exact B3.trans (puts6 _ (Nat.le_refl _) _ _ _ _ _ _)

theorem specRead_o (t : ByteArray) (w : World) (hm : t.size ≤ maxLen) (hz : t.size ≠ 29) :
    Calls Tryz.prog 92 #[.string t] w fun e w' => (∃ v, e = .returned v ∧ ReadIs t v) ∧ Below w.heap.size w w' := by
  have hm2 := hm
  unfold maxLen at hm2
  have HE : Hid (∀ y m d h i s : Int, okD y m d h i s → showA y m d h i s ≠ t) := fun y m d h i s _ e => hz (by rw [← e]; exact showA_size y m d h i s)
  go_enter Tryz.func92, Tryz.ntmps92
  go_wp2
  refine bodyPost_ret (v := .tuple #[.agg #[.int .i64 0, .int .i64 0, .int .i64 0, .int .i64 0, .int .i64 0, .int .i64 0], .bool false]) (by simp [results, Tryz.results92, go_sem]) rfl ⟨⟨_, rfl, .inr ⟨HE.out, rfl⟩⟩, (Below.refl w.heap.size w).alloc (Nat.le_refl _) _⟩
theorem specRead (t : ByteArray) (w : World) (hm : t.size ≤ maxLen) :
    Calls Tryz.prog 92 #[.string t] w fun e w' => (∃ v, e = .returned v ∧ ReadIs t v) ∧ Below w.heap.size w w' := by
  by_cases hz : t.size = 29
  · exact specRead_x t w hz
  · exact specRead_o t w hm hz
end Go.Proofs.YtkaogmdhjcgcdaaGreatDoor.Dd
namespace Go.Proofs.YtkaogmdhjcgcdaaGreatDoor.Dd
open Go.RowKit Go.Sort

set_option maxHeartbeats 1000000 in
theorem specMom_in (y m d h i s : Int) (w : World) (hok : okB y m d h i s = true) :
    Calls Tryz.prog 93 #[.agg #[.int .i64 y, .int .i64 m, .int .i64 d, .int .i64 h, .int .i64 i, .int .i64 s]] w fun e w' => e = .returned (.int .i64 (momN y m d h i s)) ∧ Grew w w' := by
  have OK : Hid (dayOk y m d) := dayOk_of hok
  have hbd := day_bd OK.out
  have hh : (0 ≤ h ∧ h ≤ 23) ∧ (0 ≤ i ∧ i ≤ 59) ∧ (0 ≤ s ∧ s ≤ 59) := (of_decide_eq_true hok : okD y m d h i s).2.2.2
  have mix := mixed
  have r1 : IntKind.i64.wrap (dayN y m d * 86400) = dayN y m d * 86400 := by rw [IntKind.wrap_i64]; omega
  have r2 : IntKind.i64.wrap (h * 3600) = h * 3600 := by rw [IntKind.wrap_i64]; omega
  have r3 : IntKind.i64.wrap (dayN y m d * 86400 + h * 3600) = dayN y m d * 86400 + h * 3600 := by rw [IntKind.wrap_i64]; omega
  have r4 : IntKind.i64.wrap (i * 60) = i * 60 := by rw [IntKind.wrap_i64]; omega
  have r5 : IntKind.i64.wrap (dayN y m d * 86400 + h * 3600 + i * 60) = dayN y m d * 86400 + h * 3600 + i * 60 := by rw [IntKind.wrap_i64]; omega
  have r6 : IntKind.i64.wrap (dayN y m d * 86400 + h * 3600 + i * 60 + s) = dayN y m d * 86400 + h * 3600 + i * 60 + s := by rw [IntKind.wrap_i64]; omega
  clear hh hbd
  go_enter Tryz.func93, Tryz.ntmps93
  go_wp2_with (go_at_call 122; refine (specOk _ _ _ _ _ _ _).mono ?_; rintro e x2 ⟨rfl, hb2⟩; rw [hok]; have hg2 : Grew w x2 := ((Grew.refl w).alloc _).trans hb2; have kk := fun n os => boxCells ((hb2.drewN n).more os); clear hb2)
  have k0 := fun n os => (kk n os).1
  have k1 := fun n os => (kk n os).2.1
  have k2 := fun n os => (kk n os).2.2.1
  have k3 := fun n os => (kk n os).2.2.2.1
  have k4 := fun n os => (kk n os).2.2.2.2.1
  have k5 := fun n os => (kk n os).2.2.2.2.2
  clear kk
  go_quiet_grown ((go_at_call 123; refine callGrew (specDays2 _ _ _ _ _ _ _ OK.out)))
  go_wp2
  go_ret
  exact ⟨rfl, (hg2.drewN _).more _⟩

theorem specMom_out (y m d h i s : Int) (w : World) (hok : okB y m d h i s = false) :
    Calls Tryz.prog 93 #[.agg #[.int .i64 y, .int .i64 m, .int .i64 d, .int .i64 h, .int .i64 i, .int .i64 s]] w fun e w' => e = .returned (.int .i64 (-1)) ∧ Grew w w' := by
  go_enter Tryz.func93, Tryz.ntmps93
  go_wp2_with (go_at_call 122; refine (specOk _ _ _ _ _ _ _).mono ?_; rintro e x2 ⟨rfl, hb2⟩; rw [hok])
  go_ret
  exact ⟨rfl, ((Grew.refl w).alloc _).trans hb2⟩

theorem specMom (y m d h i s : Int) (w : World) :
    Calls Tryz.prog 93 #[.agg #[.int .i64 y, .int .i64 m, .int .i64 d, .int .i64 h, .int .i64 i, .int .i64 s]] w fun e w' => e = .returned (.int .i64 (momV y m d h i s)) ∧ Grew w w' := by
  unfold momV
  cases hok : okB y m d h i s
  · exact specMom_out y m d h i s w hok
  · exact specMom_in y m d h i s w hok

set_option maxHeartbeats 1000000 in
theorem implMom_in (y m d h i s : Int) (w : World) (hok : okB y m d h i s = true) :
    Calls Tryz.prog 119 #[.agg #[.int .i64 y, .int .i64 m, .int .i64 d, .int .i64 h, .int .i64 i, .int .i64 s]] w fun e w' => e = .returned (.int .i64 (momN y m d h i s)) ∧ Grew w w' := by
  have OK : Hid (dayOk y m d) := dayOk_of hok
  have hbd := day_bd OK.out
  have hh : (0 ≤ h ∧ h ≤ 23) ∧ (0 ≤ i ∧ i ≤ 59) ∧ (0 ≤ s ∧ s ≤ 59) := (of_decide_eq_true hok : okD y m d h i s).2.2.2
  have mix := mixed
  have r1 : IntKind.i64.wrap (dayN y m d * 86400) = dayN y m d * 86400 := by rw [IntKind.wrap_i64]; omega
  have r2 : IntKind.i64.wrap (h * 3600) = h * 3600 := by rw [IntKind.wrap_i64]; omega
  have r3 : IntKind.i64.wrap (dayN y m d * 86400 + h * 3600) = dayN y m d * 86400 + h * 3600 := by rw [IntKind.wrap_i64]; omega
  have r4 : IntKind.i64.wrap (i * 60) = i * 60 := by rw [IntKind.wrap_i64]; omega
  have r5 : IntKind.i64.wrap (dayN y m d * 86400 + h * 3600 + i * 60) = dayN y m d * 86400 + h * 3600 + i * 60 := by rw [IntKind.wrap_i64]; omega
  have r6 : IntKind.i64.wrap (dayN y m d * 86400 + h * 3600 + i * 60 + s) = dayN y m d * 86400 + h * 3600 + i * 60 + s := by rw [IntKind.wrap_i64]; omega
  clear hh hbd
  go_enter Tryz.func119, Tryz.ntmps119
  go_wp2_with (go_at_call 142; refine (implOk _ _ _ _ _ _ _).mono ?_; rintro e x2 ⟨rfl, hb2⟩; rw [hok]; have hg2 : Grew w x2 := ((Grew.refl w).alloc _).trans hb2; have kk := fun n os => boxCells ((hb2.drewN n).more os); clear hb2)
  have k0 := fun n os => (kk n os).1
  have k1 := fun n os => (kk n os).2.1
  have k2 := fun n os => (kk n os).2.2.1
  have k3 := fun n os => (kk n os).2.2.2.1
  have k4 := fun n os => (kk n os).2.2.2.2.1
  have k5 := fun n os => (kk n os).2.2.2.2.2
  clear kk
  go_quiet_grown ((go_at_call 143; refine callGrew (implDays_in _ _ _ _ _ _ _ OK.out hok)))
  go_wp2
  go_ret
  exact ⟨rfl, (hg2.drewN _).more _⟩

theorem implMom_out (y m d h i s : Int) (w : World) (hok : okB y m d h i s = false) :
    Calls Tryz.prog 119 #[.agg #[.int .i64 y, .int .i64 m, .int .i64 d, .int .i64 h, .int .i64 i, .int .i64 s]] w fun e w' => e = .returned (.int .i64 (-1)) ∧ Grew w w' := by
  go_enter Tryz.func119, Tryz.ntmps119
  go_wp2_with (go_at_call 142; refine (implOk _ _ _ _ _ _ _).mono ?_; rintro e x2 ⟨rfl, hb2⟩; rw [hok])
  go_ret
  exact ⟨rfl, ((Grew.refl w).alloc _).trans hb2⟩

theorem implMom (y m d h i s : Int) (w : World) :
    Calls Tryz.prog 119 #[.agg #[.int .i64 y, .int .i64 m, .int .i64 d, .int .i64 h, .int .i64 i, .int .i64 s]] w fun e w' => e = .returned (.int .i64 (momV y m d h i s)) ∧ Grew w w' := by
  unfold momV
  cases hok : okB y m d h i s
  · exact implMom_out y m d h i s w hok
  · exact implMom_in y m d h i s w hok
end Go.Proofs.YtkaogmdhjcgcdaaGreatDoor.Dd
namespace Go.Proofs.YtkaogmdhjcgcdaaGreatDoor
open Go.RowKit Go.Sort
set_option linter.unusedVariables false

set_option maxHeartbeats 1000000 in
theorem specKeyO (s : ByteArray) (w : World) (hs : s.size ≤ 1048576) :
    Calls Tryz.prog 61 #[.string s] w fun e w' => e = .returned (.bool (keyO s)) ∧ w = w' := by
  have HK : Hid (keyO s = (allB keyN s.data.toList && decide (s.size ≤ 500))) := rfl
  generalize keyO s = K at HK ⊢
  go_enter Tryz.func61, Tryz.ntmps61
  go_wp2
  go_loop [3] (fun i => ∃ k : Nat, k ≤ s.size ∧ i = .int .i64 k ∧ Hid (allB keyN (s.data.toList.take k) = true)) (fun i => s.size - (intOf i).toNat)
  case atStart => exact ⟨0, Nat.zero_le _, rfl, allB_nil _ _⟩
  case round =>
    obtain ⟨k, hk, rfl, ha⟩ := hrel
    by_cases hlt : k < s.size
    · by_cases hl : (s[k].toNat : Int) < 33
      · have HF : Hid (false = K) := by show _ = _; rw [HK.out, ← allB_not (p := keyN) hlt (keyN_no (by omega))]; rfl
        go_wp2
        go_ret
        exact ⟨ret_bool HF.out, rfl⟩
      · by_cases hg : 126 < (s[k].toNat : Int)
        · have HF : Hid (false = K) := by show _ = _; rw [HK.out, ← allB_not (p := keyN) hlt (keyN_no (by omega))]; rfl
          go_wp2
          go_ret
          exact ⟨ret_bool HF.out, rfl⟩
        · have HV : Hid (allB keyN (s.data.toList.take (k + 1)) = true) := allB_step hlt ha.out (keyN_yes (by omega))
          go_wp2
          go_round
          case rel => exact ⟨k + 1, by omega, by go_num, HV⟩
          case measure => simp [intOf]; omega
    · have HE : Hid (decide ((s.size : Int) ≤ 500) = K) := by
        show _ = _
        have e : s.data.toList.take k = s.data.toList := List.take_of_length_le (by simp; omega)
        have h2 := ha.out
        rw [e] at h2
        rw [HK.out, h2, Bool.true_and]
        by_cases h5 : s.size ≤ 500
        · rw [decide_eq_true h5, decide_eq_true (by omega)]
        · rw [decide_eq_false h5, decide_eq_false (by omega)]
      go_wp2
      go_ret
      exact ⟨ret_bool HE.out, rfl⟩
theorem specMomB (n : Int) (w : World) : Calls Tryz.prog 48 #[.int .i64 n] w fun e w' => e = .returned (.bool (momB n)) ∧ w = w' := by
  have h := fun W => specIn9 n 0 253402300799 W
  change ∀ W, Calls _ _ _ _ fun e w' => e = .returned (.bool (momB n)) ∧ W = w' at h
  generalize momB n = b at h ⊢
  go_enter Tryz.func48, Tryz.ntmps48
  go_wp2_with (go_at_call 63; refine (h _).mono ?_; rintro e w1 ⟨rfl, rfl⟩)
  go_ret
  exact ⟨rfl, rfl⟩
/-- The cells of an object in block b. -/
structure ObB (w : World) (b : Nat) (o : Ob) (v u : Value) : Prop where
  c0 : w.cell? ⟨b, 0, none⟩ = some (.string o.k)
  c1 : w.cell? ⟨b, 1, none⟩ = some v
  c2 : w.cell? ⟨b, 2, none⟩ = some (.int .i64 o.r.s)
  c3 : w.cell? ⟨b, 3, none⟩ = some u
  c4 : w.cell? ⟨b, 4, none⟩ = some (.string o.r.b)
  c5 : w.cell? ⟨b, 5, none⟩ = some (.int .i64 o.asked)
  c6 : w.cell? ⟨b, 6, none⟩ = some (.int .i64 o.got)
  c7 : w.cell? ⟨b, 7, none⟩ = some (.int .i64 o.ep)
  fz : ∀ k, w.frozen? ⟨b, k, none⟩ = false
  hi : b < w.heap.size
theorem ObB.new (w : World) (o : Ob) (v u : Value) (t : TypeId) : ObB (w.alloc (.cells #[.string o.k, v, .int .i64 o.r.s, u, .string o.r.b, .int .i64 o.asked, .int .i64 o.got, .int .i64 o.ep] t)) w.heap.size o v u where
  c0 := World.cell?_alloc_mark _ _ _ _ _
  c1 := World.cell?_alloc_mark _ _ _ _ _
  c2 := World.cell?_alloc_mark _ _ _ _ _
  c3 := World.cell?_alloc_mark _ _ _ _ _
  c4 := World.cell?_alloc_mark _ _ _ _ _
  c5 := World.cell?_alloc_mark _ _ _ _ _
  c6 := World.cell?_alloc_mark _ _ _ _ _
  c7 := World.cell?_alloc_mark _ _ _ _ _
  fz := fun k => by rw [World.frozen?_alloc_mark]; simp
  hi := by simp
theorem ObB.next {w w' : World} {b : Nat} {o : Ob} {v u : Value} (h : ObB w b o v u) (hb : Below w.heap.size w w') : ObB w' b o v u := by
  have e : w'.heap[b]? = w.heap[b]? := hb.block b h.hi
  have k : ∀ k, w'.cell? ⟨b, k, none⟩ = w.cell? ⟨b, k, none⟩ := fun k => World.cell?_of_block (a := ⟨b, k, none⟩) e
  exact ⟨(k 0).trans h.c0, (k 1).trans h.c1, (k 2).trans h.c2, (k 3).trans h.c3, (k 4).trans h.c4, (k 5).trans h.c5, (k 6).trans h.c6, (k 7).trans h.c7, fun j => (World.frozen?_of_block (a := ⟨b, j, none⟩) e).trans (h.fz j), Nat.lt_of_lt_of_le h.hi hb.size⟩
/-- What a walk is told of an object that came in. -/
def ObIn (w : World) (v u : Value) (o : Ob) : Prop := Fits w v o.l ∧ RsIn w u o.r ∧ o.k.size ≤ 1048576
theorem ObIn.kept {w w' : World} {v u : Value} {o : Ob} (h : ObIn w v u o) (hb : Below w.heap.size w w') : ObIn w' v u o := ⟨h.1.kept hb, h.2.1.kept hb, h.2.2⟩
theorem Fits.form {w : World} {v : Value} {l : List Fl} (h : Fits w v l) : ∃ a cap, v = .slice a l.length cap := by
  obtain ⟨a, cap, hv, _⟩ := h.1
  exact ⟨a, cap, hv⟩
set_option maxHeartbeats 4000000 in
theorem specObOk (o : Ob) (v u : Value) (w : World) (h : ObIn w v u o) :
    Calls Tryz.prog 20 #[obV o v u] w fun e w' => e = .returned (.bool (obB o)) ∧ Below w.heap.size w w' := by
  have HB : Hid (obB o = (keyO o.k && (fldsOk o.l && (rsOk o.r && (momB o.asked && (momB o.got && (decide (o.asked ≤ o.got) && (decide (0 ≤ o.ep) && decide (o.ep ≤ 100000))))))))) := rfl
  have j1 := fun W => specKeyO o.k W h.2.2
  have j2 := fun W (hW : Fits W v o.l) => specOk v o.l W hW.1 hW.2.1
  have j3 := fun W hW => specRsOk o.r u W hW
  have j4 := fun W => specMomB o.asked W
  have j5 := fun W => specMomB o.got W
  have j6 := fun W => specIn9 o.ep 0 100000 W
  generalize (decide (0 ≤ o.ep) && decide (o.ep ≤ 100000)) = b6 at HB j6
  generalize obB o = R at HB ⊢
  generalize keyO o.k = b1 at HB j1
  generalize fldsOk o.l = b2 at HB j2
  generalize rsOk o.r = b3 at HB j3
  generalize momB o.asked = b4 at HB j4
  generalize momB o.got = b5 at HB j5
  obtain ⟨va, vc, rfl⟩ := h.1.form
  obtain ⟨ua, uc, rfl⟩ := h.2.1.1.form
  have Q0 : Hid (ObB (w.alloc (.cells #[.string o.k, .slice va o.l.length vc, .int .i64 o.r.s, .slice ua o.r.l.length uc, .string o.r.b, .int .i64 o.asked, .int .i64 o.got, .int .i64 o.ep] 28)) w.heap.size o (.slice va o.l.length vc) (.slice ua o.r.l.length uc)) := ObB.new w o _ _ _
  have B0 : Hid (Below w.heap.size w (w.alloc (.cells #[.string o.k, .slice va o.l.length vc, .int .i64 o.r.s, .slice ua o.r.l.length uc, .string o.r.b, .int .i64 o.asked, .int .i64 o.got, .int .i64 o.ep] 28))) := (Below.refl _ w).alloc (Nat.le_refl _) _
  have I0 : Hid (ObIn (w.alloc (.cells #[.string o.k, .slice va o.l.length vc, .int .i64 o.r.s, .slice ua o.r.l.length uc, .string o.r.b, .int .i64 o.asked, .int .i64 o.got, .int .i64 o.ep] 28)) (.slice va o.l.length vc) (.slice ua o.r.l.length uc) o) := h.kept B0.out
  clear h
  unfold obV
  unfold rsV at j3
  go_enter Tryz.func20, Tryz.ntmps20
  go_wp2_with fail
  refine (j1 _).mono ?_
  rintro e w1 ⟨rfl, rfl⟩
  clear j1
  cases b1 with
  | false =>
    have HR : Hid (false = R) := HB.out.symm
    go_wp2
    go_ret
    exact ⟨ret_bool HR.out, B0.out⟩
  | true =>
    go_wp2_with fail
    refine (j2 _ I0.out.1).mono ?_
    rintro e w2 ⟨rfl, hb2⟩
    have Q2 : Hid (ObB w2 w.heap.size o (.slice va o.l.length vc) (.slice ua o.r.l.length uc)) := Q0.out.next hb2
    have B2 : Hid (Below w.heap.size w w2) := past6 B0.out hb2
    have I2 : Hid (ObIn w2 (.slice va o.l.length vc) (.slice ua o.r.l.length uc) o) := I0.out.kept hb2
    clear hb2 Q0 B0 I0 j2
    cases b2 with
    | false =>
      have HR : Hid (false = R) := HB.out.symm
      go_wp2
      go_ret
      exact ⟨ret_bool HR.out, B2.out⟩
    | true =>
      have d2 := Q2.out.c2
      have d3 := Q2.out.c3
      have d4 := Q2.out.c4
      go_wp2_with fail
      refine (j3 _ I2.out.2.1).mono ?_
      rintro e w3 ⟨rfl, hb3⟩
      have Q3 : Hid (ObB w3 w.heap.size o (.slice va o.l.length vc) (.slice ua o.r.l.length uc)) := Q2.out.next hb3
      have B3 : Hid (Below w.heap.size w w3) := past6 B2.out hb3
      clear hb3 Q2 B2 I2 j3 d2 d3 d4
      have d5 := Q3.out.c5
      have d6 := Q3.out.c6
      have d7 := Q3.out.c7
      cases b3 with
      | false =>
        have HR : Hid (false = R) := HB.out.symm
        go_wp2
        go_ret
        exact ⟨ret_bool HR.out, B3.out⟩
      | true =>
        go_wp2_with fail
        refine (j4 _).mono ?_
        rintro e w4 ⟨rfl, rfl⟩
        clear j4
        cases b4 with
        | false =>
          have HR : Hid (false = R) := HB.out.symm
          go_wp2
          go_ret
          exact ⟨ret_bool HR.out, B3.out⟩
        | true =>
          go_wp2_with fail
          refine (j5 _).mono ?_
          rintro e w5 ⟨rfl, rfl⟩
          clear j5
          cases b5 with
          | false =>
            have HR : Hid (false = R) := HB.out.symm
            go_wp2
            go_ret
            exact ⟨ret_bool HR.out, B3.out⟩
          | true =>
            by_cases hag : o.asked ≤ o.got
            · have da : decide (o.asked ≤ o.got) = true := decide_eq_true hag
              have HR : Hid (b6 = R) := by show _ = _; rw [HB.out, da]; simp
              go_wp2_with (go_at_call 63; refine (j6 _).mono ?_; rintro e w6 ⟨rfl, rfl⟩)
              go_ret
              exact ⟨ret_bool HR.out, B3.out⟩
            · have da : decide (o.asked ≤ o.got) = false := decide_eq_false hag
              have HR : Hid (false = R) := by show _ = _; rw [HB.out, da]; simp
              go_wp2
              go_ret
              exact ⟨ret_bool HR.out, B3.out⟩
end Go.Proofs.YtkaogmdhjcgcdaaGreatDoor
namespace Go.Proofs.YtkaogmdhjcgcdaaGreatDoor
open Go.RowKit Go.Sort
set_option linter.unusedVariables false
set_option linter.unusedSimpArgs false

theorem getF_bound (n : ByteArray) : ∀ (l : List Fl) (p : ByteArray × Bool), (l.foldl (gStep n) p).1.size ≤ p.1.size + szL l + 2 * l.length := by
  intro l
  induction l with
  | nil => intro p; simp
  | cons f l ih =>
    intro p
    have h := ih (gStep n p f)
    have hs : (gStep n p f).1.size ≤ p.1.size + 2 + f.2.size := by
      unfold gStep
      split
      · simp only
        rw [ByteArray.size_append]
        split
        · rw [ByteArray.size_append]; exact Nat.le_refl _
        · omega
      · omega
    have hz : szL (f :: l) = f.1.size + f.2.size + szL l := by simp [szL, szF]
    rw [List.foldl_cons, List.length_cons, hz]
    omega
theorem getF_max {l : List Fl} (n : ByteArray) (h1 : szL l ≤ 1048576) (h2 : l.length ≤ 1048576) : (getF l n).1.size ≤ 3145728 := by
  have := getF_bound n l (⟨#[]⟩, false)
  have h0 : (⟨#[]⟩ : ByteArray).size = 0 := rfl
  unfold getF
  simp only [h0] at this
  omega
set_option maxRecDepth 100000 in
set_option maxHeartbeats 2000000 in
theorem specCtl (v : Value) (l : List Fl) (w : World) (h : Fits w v l) :
    Calls Tryz.prog 55 #[v] w fun e w' => e = .returned (ctV (ctlOf l)) ∧ Below w.heap.size w w' := by
  have hgz := getF_max nCC h.2.1 h.2.2.1
  have hg := fun W (hW : Fits W v l) => specGetN v l nCC W hW.1 hW.2.1 hW.2.2.1 (by decide)
  have hr := fun W => specRdC (getF l nCC).1 W (by unfold maxLen; omega) (items_size _)
  have HC : Hid (ctlOf l = rdCt (getF l nCC).1) := rfl
  unfold getE at hg
  generalize ctlOf l = C at HC ⊢
  rw [← HC.out] at hr
  generalize getF l nCC = g at hg hr
  obtain ⟨t, b⟩ := g
  simp only at hg hr
  obtain ⟨va, vc, rfl⟩ := h.form
  have b0 : Hid (Below w.heap.size w (w.alloc (.cells #[.int .i64 0, .int .i64 0, .int .i64 0, .bool false, .bool false, .bool false, .bool false] 50))) := (Below.refl _ w).alloc (Nat.le_refl _) _
  have Z0 : Hid (CtB (w.alloc (.cells #[.int .i64 0, .int .i64 0, .int .i64 0, .bool false, .bool false, .bool false, .bool false] 50)) w.heap.size ctZ) := CtB.born w ctZ 50
  have F0 : Hid (Fits (w.alloc (.cells #[.int .i64 0, .int .i64 0, .int .i64 0, .bool false, .bool false, .bool false, .bool false] 50)) (.slice va l.length vc) l) := h.kept b0.out
  clear h HC
  unfold nCC at hg
  go_enter Tryz.func55, Tryz.ntmps55
  go_wp2_with fail
  refine (hg _ F0.out).mono ?_
  rintro e w1 ⟨rfl, hb1⟩
  have Z1 : Hid (CtB w1 w.heap.size ctZ) := Z0.out.kept hb1
  have B1 : Hid (Below w.heap.size w w1) := past6 b0.out hb1
  clear hb1 Z0 F0 b0 hg
  go_wp2_with fail
  refine (hr _).mono ?_
  rintro e w2 ⟨rfl, hb2⟩
  have Z2 : Hid (CtB w2 w.heap.size ctZ) := Z1.out.kept hb2
  have B2 : Hid (Below w.heap.size w w2) := past6 B1.out hb2
  clear hb2 Z1 B1 hr
  obtain ⟨xa, xs, xt, xns, xnc, xpr, xmu⟩ := C
  obtain ⟨z0, z1, z2, z3, z4, z5, z6⟩ := Z2.out.all
  have zf := Z2.out.fz
  have P1 := Z2.out.puts ⟨xa, xs, xt, xns, xnc, xpr, xmu⟩
  have HP : Hid _ := CtB.all P1
  have BP : Hid _ := putL_below (B := w.heap.size) (b := w.heap.size) (Nat.le_refl _) (ctE.c ⟨xa, xs, xt, xns, xnc, xpr, xmu⟩) 0 B2.out
  unfold ctZ at z0 z1 z2 z3 z4 z5 z6
  simp only at z0 z1 z2 z3 z4 z5 z6
  unfold ctV
  clear P1 Z2
  go_wp2
  obtain ⟨p0, p1, p2, p3, p4, p5, p6⟩ := HP.out
  rw [ctE_c] at p0 p1 p2 p3 p4 p5 p6
  have bp := BP.out
  rw [ctE_c] at bp
  simp only [putL, Nat.zero_add, Nat.reduceAdd] at p0 p1 p2 p3 p4 p5 p6 bp
  exact bodyPost_ret (v := ctV ⟨xa, xs, xt, xns, xnc, xpr, xmu⟩) (by unfold ctV; simp [results, Tryz.results55, go_sem, p0, p1, p2, p3, p4, p5, p6]) rfl ⟨rfl, bp⟩
set_option maxHeartbeats 1000000 in
theorem specTagO (r : Rs) (u : Value) (w : World) (h : RsIn w u r) :
    Calls Tryz.prog 72 #[rsV r u] w fun e w' => e = .returned (.bool (tagOf r.l)) ∧ Below w.heap.size w w' := by
  have hgz := getF_max nET h.1.2.1 h.1.2.2.1
  have hg := fun W (hW : Fits W u r.l) => specGetN u r.l nET W hW.1 hW.2.1 hW.2.2.1 (by decide)
  have hr := fun W => specRd (getF r.l nET).1 W (by unfold maxLen; omega)
  have HT : Hid (tagOf r.l = (rdT (getF r.l nET).1).isSome) := rfl
  unfold getE at hg
  generalize tagOf r.l = T at HT ⊢
  generalize rdT (getF r.l nET).1 = q at HT hr
  generalize getF r.l nET = g at hg hr
  obtain ⟨t, b⟩ := g
  simp only at hg hr
  obtain ⟨ua, uc, rfl⟩ := h.1.form
  have B0 : Hid (Below w.heap.size w (w.alloc (.cells #[.int .i64 r.s, .slice ua r.l.length uc, .string r.b] 26))) := (Below.refl _ w).alloc (Nat.le_refl _) _
  have F0 : Hid (Fits (w.alloc (.cells #[.int .i64 r.s, .slice ua r.l.length uc, .string r.b] 26)) (.slice ua r.l.length uc) r.l) := h.1.kept B0.out
  clear h
  unfold nET at hg
  unfold rsV
  go_enter Tryz.func72, Tryz.ntmps72
  go_wp2_with fail
  refine (hg _ F0.out).mono ?_
  rintro e w1 ⟨rfl, hb1⟩
  have B1 : Hid (Below w.heap.size w w1) := past6 B0.out hb1
  clear hb1 F0 B0 hg
  go_wp2_with fail
  refine (hr _).mono ?_
  rintro e w2 ⟨rfl, hb2⟩
  have B2 : Hid (Below w.heap.size w w2) := past6 B1.out hb2
  clear hb2 B1 hr
  cases q with
  | none =>
    have HR : Hid (false = T) := HT.out.symm
    have e0 : rdV Option.none = .tuple #[.agg #[.bool false, .string ⟨#[]⟩], .bool false] := rfl
    rw [e0]
    go_wp2
    go_ret
    exact ⟨ret_bool HR.out, B2.out.alloc B2.out.size _⟩
  | some x =>
    have HR : Hid (true = T) := HT.out.symm
    have e0 : rdV (some x) = .tuple #[.agg #[.bool x.w, .string x.t], .bool true] := rfl
    rw [e0]
    go_wp2
    go_ret
    exact ⟨ret_bool HR.out, B2.out.alloc B2.out.size _⟩
theorem MomIs.read {t : ByteArray} {n : Int} (h : MomIs t n) : (∃ y m d hh i s : Int, Dd.okB y m d hh i s = true ∧ n = Dd.momN y m d hh i s ∧ ∀ v, Dd.ReadIs t v → v = .tuple #[.agg #[.int .i64 y, .int .i64 m, .int .i64 d, .int .i64 hh, .int .i64 i, .int .i64 s], .bool true]) ∨ (n = -1 ∧ ∀ v, Dd.ReadIs t v → v = .tuple #[.agg #[.int .i64 0, .int .i64 0, .int .i64 0, .int .i64 0, .int .i64 0, .int .i64 0], .bool false]) := by
  rcases h with ⟨y, m, d, hh, i, s, h1, h2, h3⟩ | ⟨h1, h2⟩
  · exact .inl ⟨y, m, d, hh, i, s, decide_eq_true h1, h3, fun v hv => hv.one (.inl ⟨y, m, d, hh, i, s, h1, h2, rfl⟩)⟩
  · exact .inr ⟨h2, fun v hv => hv.one (.inr ⟨h1, rfl⟩)⟩
set_option maxHeartbeats 1000000 in
theorem specDateO (v : Value) (l : List Fl) (name : ByteArray) (n : Int) (w : World) (h : Fits w v l) (hn : FldMom l name n) (hz : name.size ≤ 1000) :
    Calls Tryz.prog 51 #[v, .string name] w fun e w' => e = .returned (.int .i64 n) ∧ Below w.heap.size w w' := by
  have hgz := getF_max name h.2.1 h.2.2.1
  have hg := fun W (hW : Fits W v l) => specGetN v l name W hW.1 hW.2.1 hW.2.2.1 (by omega)
  have hr := fun W => Dd.specRead (getF l name).1 W (by unfold maxLen; omega)
  have hm : MomIs (getF l name).1 n := hn
  have HM := hm.read
  unfold getE at hg
  clear hn hm
  generalize getF l name = g at hg hr HM
  obtain ⟨t, b⟩ := g
  simp only at hg hr HM
  obtain ⟨va, vc, rfl⟩ := h.form
  go_enter Tryz.func51, Tryz.ntmps51
  go_wp2_with fail
  refine (hg _ h).mono ?_
  rintro e w1 ⟨rfl, hb1⟩
  have B1 : Hid (Below w.heap.size w w1) := hb1
  clear hb1 h hg
  go_wp2_with fail
  refine (hr _).mono ?_
  rintro e w2 ⟨⟨vv, rfl, hv⟩, hb2⟩
  have B2 : Hid (Below w.heap.size w w2) := past6 B1.out hb2
  clear hb2 B1 hr
  rcases HM with ⟨y, m, d, hh, i, s, hok, rfl, hone⟩ | ⟨rfl, hone⟩
  · obtain rfl := hone _ hv
    have hmo := fun W => Dd.specMom y m d hh i s W
    have e1 : Dd.momV y m d hh i s = Dd.momN y m d hh i s := by unfold Dd.momV; rw [if_pos hok]
    rw [e1] at hmo
    generalize hN : Dd.momN y m d hh i s = N at hmo
    have HN : Hid (Dd.momN y m d hh i s = N) := hN
    clear hone hv hok e1 hN
    go_wp2_with (go_at_call 93; refine (hmo _).mono ?_; rintro e w3 ⟨rfl, hg3⟩; have HG : Hid _ := hg3.1; clear hg3)
    go_ret
    exact ⟨by rw [HN.out]; rfl, past6 (B2.out.alloc B2.out.size _) HG.out⟩
  · obtain rfl := hone _ hv
    clear hone hv
    go_wp2
    go_ret
    exact ⟨rfl, B2.out.alloc B2.out.size _⟩
end Go.Proofs.YtkaogmdhjcgcdaaGreatDoor
namespace Go.Proofs.YtkaogmdhjcgcdaaGreatDoor
open Go.RowKit

theorem i64_and255 (n : Int) : bits .and .i64 n 255 = n % 256 := by
  have h255 : (BitVec.ofInt 64 255).toNat = 2 ^ 8 - 1 := by decide
  have key : (BitVec.ofInt 64 n &&& BitVec.ofInt 64 255).toNat = (n % ((2 ^ 64 : Nat) : Int)).toNat % 2 ^ 8 := by
    rw [BitVec.toNat_and, BitVec.toNat_ofInt, h255, Nat.and_two_pow_sub_one_eq_mod]
  show IntKind.i64.wrap ((BitVec.ofInt 64 n &&& BitVec.ofInt 64 255).toNat : Nat) = n % 256
  rw [key, IntKind.wrap_i64]
  omega
theorem i64_and30 (n : Int) : bits .and .i64 n 1073741823 = n % 1073741824 := by
  have h30 : (BitVec.ofInt 64 1073741823).toNat = 2 ^ 30 - 1 := by decide
  have key : (BitVec.ofInt 64 n &&& BitVec.ofInt 64 1073741823).toNat = (n % ((2 ^ 64 : Nat) : Int)).toNat % 2 ^ 30 := by
    rw [BitVec.toNat_and, BitVec.toNat_ofInt, h30, Nat.and_two_pow_sub_one_eq_mod]
  show IntKind.i64.wrap ((BitVec.ofInt 64 n &&& BitVec.ofInt 64 1073741823).toNat : Nat) = n % 1073741824
  rw [key, IntKind.wrap_i64]
  omega

/-- The bytes of a code that came in: they lie below block b. -/
def Code8 (w : World) (b : Nat) (sa : Option Addr) (sl : Nat) : Prop := ∀ j : Nat, j < sl → ∃ (g o : Nat) (z : Int), sa = some ⟨g, o, none⟩ ∧ g < b ∧ w.cell? ⟨g, o + j, none⟩ = some (.int .u8 z) ∧ 0 ≤ z ∧ z ≤ 255
/-- A cursor in block b over a code. -/
def Cur (w : World) (b : Nat) (sa : Option Addr) (sl sc : Nat) : Prop := (∃ i h : Int, w.cell? ⟨b, 0, none⟩ = some (.slice sa sl sc) ∧ w.cell? ⟨b, 1, none⟩ = some (.int .i64 i) ∧ w.cell? ⟨b, 2, none⟩ = some (.int .i64 h) ∧ 0 ≤ i ∧ i ≤ (sl : Int)) ∧ (∀ j, w.frozen? ⟨b, j, none⟩ = false) ∧ b < w.heap.size ∧ sl ≤ 4096 ∧ Code8 w b sa sl
/-- What holds of every block but g. -/
def Beside (g : Nat) (w w' : World) : Prop := w'.os = w.os ∧ w'.tape = w.tape ∧ w'.output = w.output ∧ w.heap.size ≤ w'.heap.size ∧ ∀ k, k < w.heap.size → k ≠ g → w'.heap[k]? = w.heap[k]?
theorem Beside.refl (g : Nat) (w : World) : Beside g w w := ⟨rfl, rfl, rfl, Nat.le_refl _, fun _ _ _ => rfl⟩
theorem Beside.trans {g : Nat} {a b c : World} (h : Beside g a b) (k : Beside g b c) : Beside g a c :=
  ⟨k.1.trans h.1, k.2.1.trans h.2.1, k.2.2.1.trans h.2.2.1, Nat.le_trans h.2.2.2.1 k.2.2.2.1, fun i hi hg => (k.2.2.2.2 i (Nat.lt_of_lt_of_le hi h.2.2.2.1) hg).trans (h.2.2.2.2 i hi hg)⟩
theorem Beside.put {g : Nat} {a w : World} (h : Beside g a w) (k : Nat) (v : Value) : Beside g a (w.setCell ⟨g, k, none⟩ v) :=
  ⟨h.1, h.2.1, h.2.2.1, by simpa [World.setCell] using h.2.2.2.1, fun j hj hg => (Below.heap_setCell _ _ _ _ hg).trans (h.2.2.2.2 j hj hg)⟩
theorem Beside.below {g : Nat} {a w w' : World} (h : Beside g a w) (hb : Below w.heap.size w w') : Beside g a w' :=
  ⟨hb.os.trans h.1, hb.tape.trans h.2.1, hb.output.trans h.2.2.1, Nat.le_trans h.2.2.2.1 hb.size, fun k hk hg => (hb.block k (by have := h.2.2.2.1; omega)).trans (h.2.2.2.2 k hk hg)⟩
theorem Beside.low {g B : Nat} {w w' : World} (h : Beside g w w') (hB : B ≤ g) (hs : B ≤ w.heap.size) : Below B w w' :=
  ⟨h.1, h.2.1, h.2.2.1, h.2.2.2.1, fun k hk => h.2.2.2.2 k (by omega) (by omega)⟩
theorem Code8.kept {w w' : World} {b B : Nat} {sa : Option Addr} {sl : Nat} (h : Code8 w b sa sl) (hb : Below B w w') (hB : b ≤ B) : Code8 w' b sa sl := by
  intro j hj
  obtain ⟨g, o, z, h1, h2, h3, h4⟩ := h j hj
  exact ⟨g, o, z, h1, h2, (hb.cell (p := ⟨g, o + j, none⟩) (by show g < B; omega)).trans h3, h4⟩
theorem Cur.kept {w w' : World} {b B : Nat} {sa : Option Addr} {sl sc : Nat} (h : Cur w b sa sl sc) (hb : Below B w w') (hB : b < B) : Cur w' b sa sl sc := by
  obtain ⟨⟨i, x, h0, h1, h2, h3⟩, hf, hz, hl, hc⟩ := h
  exact ⟨⟨i, x, (hb.cell (p := ⟨b, 0, none⟩) hB).trans h0, (hb.cell (p := ⟨b, 1, none⟩) hB).trans h1, (hb.cell (p := ⟨b, 2, none⟩) hB).trans h2, h3⟩, fun j => (hb.frozen (p := ⟨b, j, none⟩) hB).trans (hf j), Nat.lt_of_lt_of_le hz hb.size, hl, hc.kept hb (by omega)⟩
/-- The cursor behind two stores. -/
theorem Cur.put {w : World} {b : Nat} {sa : Option Addr} {sl sc : Nat} {i h : Int} (h0 : w.cell? ⟨b, 0, none⟩ = some (.slice sa sl sc)) (h1 : w.cell? ⟨b, 1, none⟩ = some (.int .i64 i)) (h2 : w.cell? ⟨b, 2, none⟩ = some (.int .i64 h)) (hi : 0 ≤ i ∧ i ≤ (sl : Int)) (hf : ∀ j, w.frozen? ⟨b, j, none⟩ = false) (hz : b < w.heap.size) (hl : sl ≤ 4096) (hc : Code8 w b sa sl) (x : Int) :
    Cur (w.setCell ⟨b, 2, none⟩ (.int .i64 x)) b sa sl sc ∧ ∀ y : Int, 0 ≤ y → y ≤ (sl : Int) → Cur ((w.setCell ⟨b, 2, none⟩ (.int .i64 x)).setCell ⟨b, 1, none⟩ (.int .i64 y)) b sa sl sc := by
  have k2 : (w.setCell ⟨b, 2, none⟩ (.int .i64 x)).cell? ⟨b, 2, none⟩ = some (.int .i64 x) := World.cell?_setCell_same _ _ _ h2
  have k1 : (w.setCell ⟨b, 2, none⟩ (.int .i64 x)).cell? ⟨b, 1, none⟩ = some (.int .i64 i) := by rw [World.cell?_setCell_other _ _ _ _ (by simp)]; exact h1
  have k0 : (w.setCell ⟨b, 2, none⟩ (.int .i64 x)).cell? ⟨b, 0, none⟩ = some (.slice sa sl sc) := by rw [World.cell?_setCell_other _ _ _ _ (by simp)]; exact h0
  have kb : Below b w (w.setCell ⟨b, 2, none⟩ (.int .i64 x)) := (Below.refl b w).setCell (Nat.le_refl _) _
  have kz : b < (w.setCell ⟨b, 2, none⟩ (.int .i64 x)).heap.size := by simpa [World.setCell] using hz
  refine ⟨⟨⟨i, x, k0, k1, k2, hi⟩, fun j => by rw [World.frozen?_setCell]; exact hf j, kz, hl, hc.kept kb (Nat.le_refl _)⟩, fun y y0 y1 => ?_⟩
  refine ⟨⟨y, x, ?_, World.cell?_setCell_same _ _ _ k1, ?_, y0, y1⟩, fun j => by rw [World.frozen?_setCell, World.frozen?_setCell]; exact hf j, by simpa [World.setCell] using hz, hl, hc.kept (kb.setCell (Nat.le_refl _) _) (Nat.le_refl _)⟩
  · rw [World.cell?_setCell_other _ _ _ _ (by simp)]; exact k0
  · rw [World.cell?_setCell_other _ _ _ _ (by simp)]; exact k2

theorem Cur.born (w : World) (sa : Option Addr) (sl sc : Nat) (x : Int) (ty : TypeId) (hc : Code8 w w.heap.size sa sl) (hl : sl ≤ 4096) : Cur (w.alloc (.cells #[.slice sa sl sc, .int .i64 0, .int .i64 x] ty)) w.heap.size sa sl sc := by
  refine ⟨⟨0, x, ?_, ?_, ?_, Int.le_refl _, by omega⟩, fun j => ?_, by simp, hl, hc.kept ((Below.refl _ w).alloc (Nat.le_refl _) _) (Nat.le_refl _)⟩
  · rw [World.cell?_alloc_mark]; rfl
  · rw [World.cell?_alloc_mark]; rfl
  · rw [World.cell?_alloc_mark]; rfl
  · rw [World.frozen?_alloc_mark]; simp

set_option maxHeartbeats 400000 in
theorem l1New (sa : Option Addr) (sl sc : Nat) (w : World) (hc : Code8 w w.heap.size sa sl) (hl : sl ≤ 4096) :
    Calls Tryz.prog 42 #[.slice sa sl sc] w fun e w' => e = .returned (.pointer (some ⟨w.heap.size, 0, none⟩)) ∧ Cur w' w.heap.size sa sl sc ∧ Below w.heap.size w w' := by
  have hand := i64_and30
  go_enter Tryz.func42, Tryz.ntmps42
  go_wp2
  go_loop [3, 4] (fun h i => ∃ (k : Nat) (x : Int), k ≤ sl ∧ i = .int .i64 k ∧ h = .int .i64 x ∧ 0 ≤ x ∧ x < 1073741824) (fun _ i => sl - (intOf i).toNat)
  case atStart => exact ⟨0, _, Nat.zero_le _, rfl, rfl, by omega, by omega⟩
  case round =>
    obtain ⟨k, x, hk, rfl, rfl, hx0, hx1⟩ := hrel
    by_cases hlt : k < sl
    · obtain ⟨g, o, z, rfl, hg, hcell, hz0, hz1⟩ := hc k hlt
      clear hc
      go_wp2
      go_round
      case rel => exact ⟨k + 1, _, by omega, by go_num, rfl, by omega, by omega⟩
      case measure => simp [intOf]; omega
    · go_wp2
      go_ret
      exact ⟨rfl, Cur.born w sa sl sc x _ hc hl, (Below.refl _ w).alloc (Nat.le_refl _) _⟩

set_option maxHeartbeats 400000 in
theorem l1Byte (b : Nat) (sa : Option Addr) (sl sc : Nat) (w : World) (hc : Cur w b sa sl sc) :
    Calls Tryz.prog 101 #[.pointer (some ⟨b, 0, none⟩)] w fun e w' => ∃ x : Int, e = .returned (.int .i64 x) ∧ 0 ≤ x ∧ x ≤ 255 ∧ Cur w' b sa sl sc ∧ Beside b w w' := by
  obtain ⟨⟨i, h, h0, h1, h2, hi0, hi1⟩, hf, hz, hl, hcode⟩ := hc
  have hand := i64_and255
  have f1 := hf 1
  have f2 := hf 2
  have HP := Cur.put h0 h1 h2 ⟨hi0, hi1⟩ hf hz hl hcode
  have HP' : Hid _ := HP
  clear HP
  have HC : Hid (Code8 w b sa sl) := hcode
  clear hcode hf
  by_cases hlt : i < (sl : Int)
  · obtain ⟨g, o, z, rfl, hg, hcell, hz0, hz1⟩ := HC.out i.toNat (by omega)
    have hB : ∀ X, (w.setCell ⟨b, 2, none⟩ X).cell? ⟨g, o + i.toNat, none⟩ = some (.int .u8 z) := fun X => by
      rw [World.cell?_setCell_other _ _ _ _ (by simp <;> omega)]; exact hcell
    clear hcell
    go_enter Tryz.func101, Tryz.ntmps101
    go_wp2
    go_quiet (fail)
    go_wp2
    go_quiet (fail)
    go_wp2
    go_quiet (fail)
    go_wp2
    go_ret
    exact ⟨_, rfl, by omega, by omega, (HP'.out _).2 _ (by omega) (by omega), ((Beside.refl b w).put 2 _).put 1 _⟩
  · have hd : decide (i < (sl : Int)) = false := by simpa using hlt
    go_enter Tryz.func101, Tryz.ntmps101
    go_wp2
    go_quiet (fail)
    go_wp2
    go_quiet (fail)
    go_wp2
    go_ret
    exact ⟨_, rfl, by omega, by omega, (HP'.out _).1, (Beside.refl b w).put 2 _⟩

theorem rem_in {x n : Int} (hx : 0 ≤ x) (hn : 1 ≤ n) : 0 ≤ x.tmod n ∧ x.tmod n < n := ⟨Int.tmod_nonneg n hx, Int.tmod_lt_of_pos x (by omega)⟩
theorem mod_in {x n : Int} (hn : 1 ≤ n) : 0 ≤ x % n ∧ x % n < n := ⟨Int.emod_nonneg x (by omega), Int.emod_lt_of_pos x (by omega)⟩

set_option maxHeartbeats 400000 in
theorem l1Below (b : Nat) (sa : Option Addr) (sl sc : Nat) (n : Int) (hn : 1 ≤ n) (hn2 : n ≤ 4294967296) (w : World) (hc : Cur w b sa sl sc) :
    Calls Tryz.prog 65 #[.pointer (some ⟨b, 0, none⟩), .int .i64 n] w fun e w' => ∃ x : Int, e = .returned (.int .i64 x) ∧ 0 ≤ x ∧ x < n ∧ Cur w' b sa sl sc ∧ Beside b w w' := by
  have hnz : (n == 0) = false := by simp; omega
  by_cases hs : n ≤ 256
  · go_enter Tryz.func65, Tryz.ntmps65
    go_wp2_with (go_at_call 101; refine (l1Byte b sa sl sc _ hc).mono ?_; rintro e w1 ⟨x, rfl, hx0, hx1, hc1, hb1⟩)
    go_ret
    refine ⟨_, rfl, ?_, ?_, hc1, hb1⟩
    · first | exact (mod_in hn).1 | exact (rem_in hx0 hn).1
    · first | exact (mod_in hn).2 | exact (rem_in hx0 hn).2
  · go_enter Tryz.func65, Tryz.ntmps65
    go_wp2_with fail
    refine (l1Byte b sa sl sc _ hc).mono ?_
    rintro e w1 ⟨x1, rfl, hx0, hx1, hc1, hb1⟩
    go_wp2_with fail
    refine (l1Byte b sa sl sc _ hc1).mono ?_
    rintro e w2 ⟨x2, rfl, hy0, hy1, hc2, hb2⟩
    go_wp2_with fail
    refine (l1Byte b sa sl sc _ hc2).mono ?_
    rintro e w3 ⟨x3, rfl, hz0, hz1, hc3, hb3⟩
    go_wp2_with fail
    refine (l1Byte b sa sl sc _ hc3).mono ?_
    rintro e w4 ⟨x4, rfl, hu0, hu1, hc4, hb4⟩
    go_wp2
    go_ret
    refine ⟨_, rfl, ?_, ?_, hc4, ((hb1.trans hb2).trans hb3).trans hb4⟩
    · first | exact (mod_in hn).1 | exact (rem_in (by omega) hn).1
    · first | exact (mod_in hn).2 | exact (rem_in (by omega) hn).2

theorem l1Once (b : Nat) (sa : Option Addr) (sl sc : Nat) (n : Int) (hn : 1 ≤ n) (hn2 : n ≤ 4294967296) (w : World) (hc : Cur w b sa sl sc) :
    Calls Tryz.prog 64 #[.pointer (some ⟨b, 0, none⟩), .int .i64 n] w fun e w' => ∃ t : Bool, e = .returned (.bool t) ∧ Cur w' b sa sl sc ∧ Beside b w w' := by
  go_enter Tryz.func64, Tryz.ntmps64
  go_wp2_with (go_at_call 65; refine (l1Below b sa sl sc _ hn hn2 _ hc).mono ?_; rintro e w1 ⟨x, rfl, hx0, hx1, hc1, hb1⟩)
  go_ret
  exact ⟨_, rfl, hc1, hb1⟩

theorem besideCell {b : Nat} {w w' : World} (h : Beside b w w') {g j : Nat} {v : Value} (hg : g ≠ b) (hc : w.cell? ⟨g, j, none⟩ = some v) : w'.cell? ⟨g, j, none⟩ = some v := by
  have hz : g < w.heap.size := World.block_lt_of_cell? w ⟨g, j, none⟩ hc
  rw [← hc]
  exact World.cell?_of_block (w := w) (a := ⟨g, j, none⟩) (h.2.2.2.2 g hz hg)
/-- The bytes of a code, told. -/
def CodeZ (w : World) (b : Nat) (sa : Option Addr) (sl : Nat) (zs : List Int) : Prop := ∀ j : Nat, j < sl → ∃ g o : Nat, sa = some ⟨g, o, none⟩ ∧ g < b ∧ w.cell? ⟨g, o + j, none⟩ = some (.int .u8 (zs.getD j 0)) ∧ 0 ≤ zs.getD j 0 ∧ zs.getD j 0 ≤ 255
theorem CodeZ.code {w : World} {b : Nat} {sa : Option Addr} {sl : Nat} {zs : List Int} (h : CodeZ w b sa sl zs) : Code8 w b sa sl := fun j hj => by
  obtain ⟨g, o, h1, h2, h3, h4⟩ := h j hj
  exact ⟨g, o, _, h1, h2, h3, h4⟩
/-- What a walk is told of a slice of bytes that came in: it is nil, or it leads to a row of its bytes. -/
def IsRow (w : World) (a : Option Addr) (len cap : Nat) (zs : List Int) : Prop :=
  (a = none ∧ len = 0 ∧ cap = 0 ∧ zs = []) ∨
  ∃ x, a = some x ∧ len ≤ cap ∧ cap ≤ maxLen ∧ zs.length = cap ∧ (∀ i, i < zs.length → w.cell? (x.add i) = some (.int .u8 (zs.getD i 0))) ∧ ∀ n ∈ zs, (Lit.int .u8 n).wf = true

theorem IsRow.code {w : World} {a : Option Addr} {len cap : Nat} {zs : List Int} (h : IsRow w a len cap zs) : CodeZ w w.heap.size a len zs := by
  intro j hj
  rcases h with ⟨rfl, rfl, _⟩ | ⟨x, rfl, h1, h2, h3, hcell, hwf⟩
  · omega
  · obtain ⟨b, off, rfl, hc⟩ := ints_at hcell (by omega)
    have hj' : j < zs.length := by omega
    have hcj := hc j hj'
    have hg : b < w.heap.size := World.block_lt_of_cell? w ⟨b, off + j, none⟩ hcj
    have hmem : zs.getD j 0 ∈ zs := by
      rw [List.getD_eq_getElem?_getD, List.getElem?_eq_getElem hj']
      exact List.getElem_mem hj'
    have hw := hwf _ hmem
    simp [Lit.wf, IntKind.min, IntKind.max, IntKind.signed, IntKind.bits] at hw
    exact ⟨b, off, rfl, hg, hcj, by simpa using hw.1, by simpa using hw.2⟩

theorem isBig (sa : Option Addr) (sl sc : Nat) (w : World) (h : 4096 < sl) (hl : sl ≤ maxLen) : Calls Tryz.prog 10 #[.slice sa sl sc] w fun e w' => e = .returned (.bool true) ∧ w = w' := by
  unfold maxLen at hl
  have d : decide (4096 < (sl : Int)) = true := by simp; omega
  go_enter Tryz.func10, Tryz.ntmps10
  go_wp2
  go_ret
  exact ⟨rfl, rfl⟩
theorem notBig (sa : Option Addr) (sl sc : Nat) (w : World) (h : sl ≤ 4096) : Calls Tryz.prog 10 #[.slice sa sl sc] w fun e w' => e = .returned (.bool false) ∧ w = w' := by
  have d : decide (4096 < (sl : Int)) = false := by simp; omega
  go_enter Tryz.func10, Tryz.ntmps10
  go_wp2
  go_ret
  exact ⟨rfl, rfl⟩
theorem IsRow.len {w : World} {a : Option Addr} {len cap : Nat} {zs : List Int} (h : IsRow w a len cap zs) : len ≤ maxLen := by
  rcases h with ⟨_, rfl, _⟩ | ⟨_, _, h1, h2, _⟩
  · exact Nat.zero_le _
  · omega
end Go.Proofs.YtkaogmdhjcgcdaaGreatDoor
namespace Go.Proofs.YtkaogmdhjcgcdaaGreatDoor
open Go.RowKit

theorem byte_back {x : Int} (h0 : 0 ≤ x) (h1 : x ≤ 255) : x = ((UInt8.ofNat x.toNat).toNat : Int) := by
  rw [UInt8.toNat_ofNat', Nat.mod_eq_of_lt (by omega)]
  omega


theorem OwnsB.beside {w w' : World} {B b : Nat} {v : Value} {l : List UInt8} (h : OwnsB w B v l) (hb : Beside b w w') (hB : b < B) : OwnsB w' B v l := by
  refine ⟨h.1, ?_⟩
  rcases h.2 with h0 | ⟨g, cap, cur, hv, hbg, hg, rest⟩
  · exact .inl h0
  · exact .inr ⟨g, cap, cur, hv, hbg, by rw [hb.2.2.2.2 g (Array.getElem?_eq_some_iff.1 hg).1 (by omega)]; exact hg, rest⟩
theorem OwnsB.shape {w : World} {B : Nat} {v : Value} {l : List UInt8} (h : OwnsB w B v l) (hl : 0 < l.length) : ∃ g cap, v = .slice (some ⟨g, 0, none⟩) l.length cap := by
  rcases h.2 with ⟨_, h0⟩ | ⟨g, cap, cur, hv, _⟩
  · omega
  · exact ⟨g, cap, hv⟩
theorem Beside.grow {b B : Nat} {w wr w2 : World} (h : Beside b w wr) (hb : Below B wr w2) (hB : w.heap.size ≤ B) : Beside b w w2 :=
  ⟨hb.os.trans h.1, hb.tape.trans h.2.1, hb.output.trans h.2.2.1, Nat.le_trans h.2.2.2.1 hb.size, fun k hk hg => (hb.block k (by omega)).trans (h.2.2.2.2 k hk hg)⟩
/-- A byte stored into an owned row. -/
theorem OwnsB.put {w : World} {B g cap n : Nat} {l : List UInt8} (hn : n = l.length) (h : OwnsB w B (.slice (some ⟨g, 0, none⟩) n cap) l) (k : Nat) (c : UInt8) : OwnsB (w.setCell ⟨g, k, none⟩ (.int .u8 (c.toNat : Int))) B (.slice (some ⟨g, 0, none⟩) n cap) (l.set k c) := by
  subst hn
  have h2 := (World.ownsRow.stored h k (.int .u8 (c.toNat : Int))).1
  unfold OwnsB
  have e : bytesV (l.set k c) = (bytesV l).set k (.int .u8 (c.toNat : Int)) := by unfold bytesV; rw [List.map_set]
  rw [List.length_set, e]
  exact h2
theorem OwnsB.at {w : World} {B g cap n : Nat} {l : List UInt8} (hn : n = l.length) (h : OwnsB w B (.slice (some ⟨g, 0, none⟩) n cap) l) (j : Nat) (hj : j < l.length) : w.cell? ⟨g, j, none⟩ = some (.int .u8 (l[j].toNat : Int)) ∧ w.frozen? ⟨g, j, none⟩ = false ∧ B ≤ g := by
  subst hn
  refine ⟨?_, World.ownsRow.frozenAt h j, (World.ownsRow.lt h g rfl).1⟩
  rw [World.ownsRow.cellAt h j (by omega)]
  simp [bytesV, hj]
set_option maxHeartbeats 1000000 in
theorem l1DrawText (b : Nat) (sa : Option Addr) (sl sc : Nat) (signs : ByteArray) (most : Nat) (hs1 : 1 ≤ signs.size) (hs2 : signs.size ≤ 1000) (hm : most ≤ 1000) (w : World) (hc : Cur w b sa sl sc) :
    Calls Tryz.prog 102 #[.pointer (some ⟨b, 0, none⟩), .string signs, .int .i64 most] w fun e w' => ∃ t : ByteArray, e = .returned (.string t) ∧ t.size ≤ most ∧ Cur w' b sa sl sc ∧ Beside b w w' := by
  have hbz : b < w.heap.size := hc.2.2.1
  have hc0 : Cur (w.alloc (.cells #[] 5)) b sa sl sc := hc.kept ((Below.refl _ w).alloc (Nat.le_refl _) _) hbz
  clear hc
  go_enter Tryz.func102, Tryz.ntmps102
  go_wp2_with fail
  refine (l1Below b sa sl sc _ (by omega) (by omega) _ hc0).mono ?_
  rintro e w1 ⟨x, rfl, hx0, hx1, hc1, hb1⟩
  have ho1 := (OwnsB.empty w).beside hb1 hbz
  have hb2 : Beside b w w1 := ((Beside.refl b w).below ((Below.refl _ w).alloc (Nat.le_refl _) _)).trans hb1
  obtain ⟨x, rfl⟩ := Int.eq_ofNat_of_zero_le hx0
  clear hb1 hc0
  go_wp2_with fail
  go_loopw [7, 8] (fun v n wr => ∃ (k : Nat) (l : List UInt8) (g cap : Nat), n = .int .i64 k ∧ v = .slice (some ⟨g, 0, none⟩) l.length cap ∧ OwnsB wr w.heap.size (.slice (some ⟨g, 0, none⟩) l.length cap) l ∧ Cur wr b sa sl sc ∧ Beside b w wr ∧ l.length + k ≤ most) (fun _ n _ => (intOf n).toNat)
  case atStart => exact ⟨x, [], w.heap.size, 0, rfl, rfl, ho1, hc1, hb2, by simp; omega⟩
  case round =>
    clear ho1 hc1 hb2
    obtain ⟨k, l, g, cap, rfl, rfl, ho, hc, hb, hlk⟩ := hrel
    by_cases hk : 0 < k
    · go_wp2_with fail
      refine (l1Below b sa sl sc _ (by omega) (by omega) _ hc).mono ?_
      rintro e w2 ⟨y, rfl, hy0, hy1, hc2, hb2⟩
      obtain ⟨y, rfl⟩ := Int.eq_ofNat_of_zero_le hy0
      have ho2 := ho.beside hb2 hbz
      have hb3 := hb.trans hb2
      have hz2 : w.heap.size ≤ w2.heap.size := hb3.2.2.2.1
      have hys : y < signs.size := by omega
      clear ho hc hb hb2
      go_wp2_with (at_builtin; refine wpList_push _ rfl (.tmp 18) (.tmp 25) rfl w.heap.size _ _ _ signs[y] rfl rfl ho2 rfl (by omega) hz2 ?_; intro v3 w3 ho3 hg3)
      go_roundw
      case rel =>
        have hbl : Below w.heap.size w2 w3 := (Below.refl _ w2).grown hg3 hz2 (OwnsB.from ho2)
        obtain ⟨g3, cap3, rfl⟩ := ho3.shape (by simp)
        exact ⟨k - 1, _, g3, cap3, by go_num, rfl, ho3, hc2.kept hbl hbz, hb3.grow hbl (Nat.le_refl _), by simp; omega⟩
      case measure => simp [intOf]; omega
    · obtain rfl : k = 0 := by omega
      go_wp2_with fail
      refine (l1Once b sa sl sc _ (by decide) (by decide) _ hc).mono ?_
      rintro e w2 ⟨t, rfl, hc2, hb2⟩
      have ho2 := ho.beside hb2 hbz
      have hb3 := hb.trans hb2
      clear ho hc hb hb2
      cases t with
      | false =>
        have hback := ho2.text
        go_wp2
        go_ret
        exact ⟨_, rfl, by show l.toArray.size ≤ most; simp; omega, hc2, hb3⟩
      | true =>
        by_cases hl : 0 < l.length
        · go_wp2_with fail
          refine (l1Below b sa sl sc _ (by omega) (by omega) _ hc2).mono ?_
          rintro e w4 ⟨y, rfl, hy0, hy1, hc4, hb4⟩
          obtain ⟨y, rfl⟩ := Int.eq_ofNat_of_zero_le hy0
          have ho4 := ho2.beside hb4 hbz
          have hb5 := hb3.trans hb4
          clear ho2 hc2 hb3 hb4
          go_wp2_with fail
          refine (l1Byte b sa sl sc _ hc4).mono ?_
          rintro e w6 ⟨z, rfl, hz0, hz1, hc6, hb6⟩
          have ho6 := ho4.beside hb6 hbz
          have hb7 := hb5.trans hb6
          clear ho4 hc4 hb5 hb6
          obtain ⟨hcell, hfz, hgB⟩ := ho6.at rfl y (by omega)
          obtain ⟨c, hcz⟩ : ∃ c : UInt8, z = (c.toNat : Int) := ⟨_, byte_back hz0 hz1⟩
          subst hcz
          have ho8 := ho6.put rfl y c
          have hback := ho8.text
          have hbl : Below w.heap.size w6 (w6.setCell ⟨g, y, none⟩ (.int .u8 (c.toNat : Int))) := (Below.refl _ w6).setCell hgB _
          have hc8 := hc6.kept hbl hbz
          have hb8 := hb7.grow hbl (Nat.le_refl _)
          clear ho6 hc6 hb7 hbl ho8
          go_wp2
          go_ret
          exact ⟨_, rfl, by show (l.set y c).toArray.size ≤ most; simp; omega, hc8, hb8⟩
        · have hback := ho2.text
          go_wp2
          go_ret
          exact ⟨_, rfl, by show l.toArray.size ≤ most; simp; omega, hc2, hb3⟩
end Go.Proofs.YtkaogmdhjcgcdaaGreatDoor
