/-
  A request and a response by value; the specification's RequestOk, ResponseOk and Framing by their contracts.
  Plain facts: the library's Cut at a line end and at a colon; a line as the specification reads it, byte by byte.
  The contracts of the law's own helpers: slices of texts compared, marked, and asked for their marks.
-/
import Derived.Test.YteibacmohplblaaGreatDoorG11
import Derived.Test.YteibacmohplblaaGreatDoorG06
import Derived.Lib.IndexMore
import Derived.Test.YteibacmohplblaaGreatDoorG03
import Derived.Deep.QuietTactic
import Derived.BigQuiet
import Derived.Deep.RegionWith
import Derived.Laws.IdiomStrings
namespace Go.Proofs.YteibacmohplblaaGreatDoor
open Go.RowKit
set_option linter.unusedVariables false

def rqV (r : Rq) (v : Value) : Value := .agg #[.string r.m, .string r.t, v, .string r.b]
def rsV (r : Rs) (v : Value) : Value := .agg #[.int .i64 r.s, v, .string r.b]
/-- The cells of a request in block b. -/
structure RqB (w : World) (b : Nat) (r : Rq) (v : Value) : Prop where
  c0 : w.cell? ⟨b, 0, none⟩ = some (.string r.m)
  c1 : w.cell? ⟨b, 1, none⟩ = some (.string r.t)
  c2 : w.cell? ⟨b, 2, none⟩ = some v
  c3 : w.cell? ⟨b, 3, none⟩ = some (.string r.b)
  fz : ∀ k, w.frozen? ⟨b, k, none⟩ = false
  hi : b < w.heap.size
structure RsB (w : World) (b : Nat) (r : Rs) (v : Value) : Prop where
  c0 : w.cell? ⟨b, 0, none⟩ = some (.int .i64 r.s)
  c1 : w.cell? ⟨b, 1, none⟩ = some v
  c2 : w.cell? ⟨b, 2, none⟩ = some (.string r.b)
  fz : ∀ k, w.frozen? ⟨b, k, none⟩ = false
  hi : b < w.heap.size
theorem RqB.new (w : World) (r : Rq) (v : Value) (t : TypeId) : RqB (w.alloc (.cells #[.string r.m, .string r.t, v, .string r.b] t)) w.heap.size r v where
  c0 := World.cell?_alloc_mark _ _ _ _ _
  c1 := World.cell?_alloc_mark _ _ _ _ _
  c2 := World.cell?_alloc_mark _ _ _ _ _
  c3 := World.cell?_alloc_mark _ _ _ _ _
  fz := fun k => by rw [World.frozen?_alloc_mark]; simp
  hi := by simp
theorem RsB.new (w : World) (r : Rs) (v : Value) (t : TypeId) : RsB (w.alloc (.cells #[.int .i64 r.s, v, .string r.b] t)) w.heap.size r v where
  c0 := World.cell?_alloc_mark _ _ _ _ _
  c1 := World.cell?_alloc_mark _ _ _ _ _
  c2 := World.cell?_alloc_mark _ _ _ _ _
  fz := fun k => by rw [World.frozen?_alloc_mark]; simp
  hi := by simp
theorem RqB.next {w w' : World} {b : Nat} {r : Rq} {v : Value} (h : RqB w b r v) (hb : Below w.heap.size w w') : RqB w' b r v := by
  have e : w'.heap[b]? = w.heap[b]? := hb.block b h.hi
  have k : ∀ k, w'.cell? ⟨b, k, none⟩ = w.cell? ⟨b, k, none⟩ := fun k => World.cell?_of_block (a := ⟨b, k, none⟩) e
  exact ⟨(k 0).trans h.c0, (k 1).trans h.c1, (k 2).trans h.c2, (k 3).trans h.c3, fun j => (World.frozen?_of_block (a := ⟨b, j, none⟩) e).trans (h.fz j), Nat.lt_of_lt_of_le h.hi hb.size⟩
theorem RsB.next {w w' : World} {b : Nat} {r : Rs} {v : Value} (h : RsB w b r v) (hb : Below w.heap.size w w') : RsB w' b r v := by
  have e : w'.heap[b]? = w.heap[b]? := hb.block b h.hi
  have k : ∀ k, w'.cell? ⟨b, k, none⟩ = w.cell? ⟨b, k, none⟩ := fun k => World.cell?_of_block (a := ⟨b, k, none⟩) e
  exact ⟨(k 0).trans h.c0, (k 1).trans h.c1, (k 2).trans h.c2, fun j => (World.frozen?_of_block (a := ⟨b, j, none⟩) e).trans (h.fz j), Nat.lt_of_lt_of_le h.hi hb.size⟩
theorem RqB.alloc {w : World} {b : Nat} {r : Rq} {v : Value} (h : RqB w b r v) (o : Obj) : RqB (w.alloc o) b r v := h.next ((Below.refl _ w).alloc (Nat.le_refl _) _)
theorem RsB.alloc {w : World} {b : Nat} {r : Rs} {v : Value} (h : RsB w b r v) (o : Obj) : RsB (w.alloc o) b r v := h.next ((Below.refl _ w).alloc (Nat.le_refl _) _)
theorem Fits.alloc {w : World} {v : Value} {l : List Fl} (h : Fits w v l) (o : Obj) : Fits (w.alloc o) v l := h.kept ((Below.refl _ w).alloc (Nat.le_refl _) _)
/-- What a walk is told of a request, of a response that came in. -/
def RqIn (w : World) (v : Value) (r : Rq) : Prop := Fits w v r.l ∧ r.m.size ≤ 1048576 ∧ r.t.size ≤ 1048576 ∧ r.b.size ≤ 1048576
def RsIn (w : World) (v : Value) (r : Rs) : Prop := Fits w v r.l ∧ r.b.size ≤ 1048576
theorem RqIn.kept {w w' : World} {v : Value} {r : Rq} (h : RqIn w v r) (hb : Below w.heap.size w w') : RqIn w' v r := ⟨h.1.kept hb, h.2⟩
theorem RsIn.kept {w w' : World} {v : Value} {r : Rs} (h : RsIn w v r) (hb : Below w.heap.size w w') : RsIn w' v r := ⟨h.1.kept hb, h.2⟩
theorem pastA6 {w w1 w2 : World} {o : Obj} (h : Below w.heap.size w w1) (hb : Below (w1.alloc o).heap.size (w1.alloc o) w2) : Below w.heap.size w w2 := past6 (h.alloc h.size o) hb
theorem le_max {n : Nat} (h : n ≤ 1048576) : n ≤ maxLen := by unfold maxLen; omega

theorem rqOk_no1 {r : Rq} (h : metB r.m = false) : false = rqOk r := by unfold rqOk; rw [h]; rfl
theorem rqOk_no2 {r : Rq} (h : metB r.m = true) (h2 : tarB r.t = false) : false = rqOk r := by unfold rqOk; rw [h, h2]; rfl
theorem rqOk_no3 {r : Rq} (h : metB r.m = true) (h2 : tarB r.t = true) (h3 : ownB r.l = false) : false = rqOk r := by unfold rqOk; rw [h, h2, h3]; rfl
theorem rqOk_is {r : Rq} (h : metB r.m = true) (h2 : tarB r.t = true) (h3 : ownB r.l = true) : decide ((r.b.size : Int) ≤ 4000) = rqOk r := by
  unfold rqOk; rw [h, h2, h3]
  by_cases hb : r.b.size ≤ 4000
  · rw [decide_eq_true hb, decide_eq_true (by omega)]; rfl
  · rw [decide_eq_false hb, decide_eq_false (by omega)]; rfl
set_option maxHeartbeats 1000000 in
theorem specRqOk (r : Rq) (v : Value) (w : World) (h : RqIn w v r) :
    Calls Tryz.prog 12 #[rqV r v] w fun e w' => e = .returned (.bool (rqOk r)) ∧ Below w.heap.size w w' := by
  obtain ⟨hf, z1, z2, z3⟩ := h
  have hfs := hf.1
  obtain ⟨a, cap, rfl, hcap⟩ := hfs
  clear hcap
  unfold rqV
  have HF : Hid (Fits w (.slice a r.l.length cap) r.l) := hf
  clear hf
  have hq1 : r.b.size ≤ 9223372036854775807 := by omega
  go_enter Tryz.func12, Tryz.ntmps12
  go_wp2_with fail
  refine (specMet r.m _ (le_max z1)).mono ?_
  rintro e w1 ⟨rfl, hb1⟩
  have Q1 : Hid (RqB w1 w.heap.size r (.slice a r.l.length cap)) := (RqB.new w r _ _).next hb1
  have B1 : Hid (Below w.heap.size w w1) := pastA6 (Below.refl _ w) hb1
  have F1 : Hid (Fits w1 (.slice a r.l.length cap) r.l) := (HF.out.alloc _).kept hb1
  clear HF hb1
  have a1 := Q1.out.c1
  cases hm : metB r.m with
  | false =>
    have H0 : Hid (false = rqOk r) := rqOk_no1 hm
    go_wp2
    go_ret
    exact ⟨ret_bool H0.out, B1.out⟩
  | true =>
    go_wp2_with fail
    refine (specTar r.t _ (le_max z2)).mono ?_
    rintro e w2 ⟨rfl, hb2⟩
    have Q2 : Hid (RqB w2 w.heap.size r (.slice a r.l.length cap)) := Q1.out.next hb2
    have B2 : Hid (Below w.heap.size w w2) := past6 B1.out hb2
    have F2 : Hid (Fits w2 (.slice a r.l.length cap) r.l) := F1.out.kept hb2
    clear Q1 B1 F1 hb2 a1
    have a2 := Q2.out.c2
    cases ht : tarB r.t with
    | false =>
      have H0 : Hid (false = rqOk r) := rqOk_no2 hm ht
      go_wp2
      go_ret
      exact ⟨ret_bool H0.out, B2.out⟩
    | true =>
      go_wp2_with fail
      refine (specOwn _ r.l _ F2.out).mono ?_
      rintro e w3 ⟨rfl, hb3⟩
      have Q3 : Hid (RqB w3 w.heap.size r (.slice a r.l.length cap)) := Q2.out.next hb3
      have B3 : Hid (Below w.heap.size w w3) := past6 B2.out hb3
      clear Q2 B2 F2 hb3 a2
      have a3 := Q3.out.c3
      cases ho : ownB r.l with
      | false =>
        have H0 : Hid (false = rqOk r) := rqOk_no3 hm ht ho
        go_wp2
        go_ret
        exact ⟨ret_bool H0.out, B3.out⟩
      | true =>
        have H0 : Hid (decide ((r.b.size : Int) ≤ 4000) = rqOk r) := rqOk_is hm ht ho
        go_wp2
        go_ret
        exact ⟨ret_bool H0.out, B3.out⟩

theorem specIn6 (x lo hi : Int) (w : World) :
    Calls Tryz.prog 79 #[.int .i64 x, .int .i64 lo, .int .i64 hi] w fun e w' => e = .returned (.bool (decide (lo ≤ x ∧ x ≤ hi))) ∧ w = w' := by
  obtain ⟨b, hb⟩ : ∃ b, decide (lo ≤ x ∧ x ≤ hi) = b := ⟨_, rfl⟩
  rw [hb]
  by_cases h1 : lo ≤ x
  · have H0 : Hid (decide (x ≤ hi) = b) := by show decide (x ≤ hi) = b; rw [← hb]; simp [h1]
    have d1 : decide (lo ≤ x) = true := by simpa using h1
    clear hb
    go_enter Tryz.func79, Tryz.ntmps79
    go_wp2
    go_ret
    exact ⟨ret_bool H0.out, rfl⟩
  · have H0 : Hid (false = b) := by show false = b; rw [← hb]; simp [h1]
    have d1 : decide (lo ≤ x) = false := by simpa using h1
    clear hb
    go_enter Tryz.func79, Tryz.ntmps79
    go_wp2
    go_ret
    exact ⟨ret_bool H0.out, rfl⟩
theorem rsOk_no1 {r : Rs} (h : decide (200 ≤ r.s ∧ r.s ≤ 599) = false) : false = rsOk r := by unfold rsOk; rw [h]; rfl
theorem rsOk_no2 {r : Rs} (h : decide (200 ≤ r.s ∧ r.s ≤ 599) = true) (h2 : ownB r.l = false) : false = rsOk r := by unfold rsOk; rw [h, h2]; rfl
theorem rsOk_no3 {r : Rs} (h : decide (200 ≤ r.s ∧ r.s ≤ 599) = true) (h2 : ownB r.l = true) (h3 : ¬ r.b.size ≤ 4000) : false = rsOk r := by unfold rsOk; rw [h, h2, decide_eq_false h3]; rfl
theorem rsOk_yes {r : Rs} (h : decide (200 ≤ r.s ∧ r.s ≤ 599) = true) (h2 : ownB r.l = true) (h3 : r.b.size ≤ 4000) (h4 : bareB r.s = false) : true = rsOk r := by unfold rsOk; rw [h, h2, decide_eq_true h3, h4]; rfl
theorem rsOk_is {r : Rs} (h : decide (200 ≤ r.s ∧ r.s ≤ 599) = true) (h2 : ownB r.l = true) (h3 : r.b.size ≤ 4000) (h4 : bareB r.s = true) : decide (r.b.size = 0) = rsOk r := by unfold rsOk; rw [h, h2, decide_eq_true h3, h4]; rfl
theorem void_emp (b : ByteArray) : b.toList.isEmpty = decide (b.size = 0) := by
  rw [ByteArray.toList_eq]
  by_cases h : b.size = 0
  · rw [decide_eq_true h, void_list h]; rfl
  · rw [decide_eq_false h, List.isEmpty_eq_false_iff]
    intro e
    apply h
    have : b.data.toList.length = b.size := by simp
    rw [e] at this
    simpa using this.symm
theorem ch_list : chS.toList = [99, 104, 117, 110, 107, 101, 100] := by rw [ByteArray.toList_eq]; rfl
theorem same_ch {y : ByteArray} {b : Bool} (h : (y.toList == chS.toList) = b) : (y.toList == [99, 104, 117, 110, 107, 101, 100]) = b := by rw [ch_list] at h; exact h
set_option maxHeartbeats 1000000 in
theorem specRsOk (r : Rs) (v : Value) (w : World) (h : RsIn w v r) :
    Calls Tryz.prog 25 #[rsV r v] w fun e w' => e = .returned (.bool (rsOk r)) ∧ Below w.heap.size w w' := by
  obtain ⟨hf, z3⟩ := h
  have hfs := hf.1
  obtain ⟨a, cap, rfl, hcap⟩ := hfs
  clear hcap
  unfold rsV
  have F0 : Hid (Fits (w.alloc (.cells #[.int .i64 r.s, .slice a r.l.length cap, .string r.b] 39)) (.slice a r.l.length cap) r.l) := hf.alloc _
  have Q0 : Hid (RsB (w.alloc (.cells #[.int .i64 r.s, .slice a r.l.length cap, .string r.b] 39)) w.heap.size r (.slice a r.l.length cap)) := RsB.new w r _ _
  have B0 : Hid (Below w.heap.size w (w.alloc (.cells #[.int .i64 r.s, .slice a r.l.length cap, .string r.b] 39))) := (Below.refl _ w).alloc (Nat.le_refl _) _
  clear hf
  have hq1 : r.b.size ≤ 9223372036854775807 := by omega
  go_enter Tryz.func25, Tryz.ntmps25
  go_wp2_with fail
  refine (specIn6 _ _ _ _).mono ?_
  rintro e w1 ⟨rfl, rfl⟩
  cases h1 : decide (200 ≤ r.s ∧ r.s ≤ 599) with
  | false =>
    have H0 : Hid (false = rsOk r) := rsOk_no1 h1
    go_wp2
    go_ret
    exact ⟨ret_bool H0.out, B0.out⟩
  | true =>
    go_wp2_with fail
    refine (specOwn _ r.l _ F0.out).mono ?_
    rintro e w2 ⟨rfl, hb2⟩
    have Q2 : Hid (RsB w2 w.heap.size r (.slice a r.l.length cap)) := Q0.out.next hb2
    have B2 : Hid (Below w.heap.size w w2) := past6 B0.out hb2
    clear Q0 B0 F0 hb2
    have a0 := Q2.out.c0
    have a2 := Q2.out.c2
    cases h2 : ownB r.l with
    | false =>
      have H0 : Hid (false = rsOk r) := rsOk_no2 h1 h2
      go_wp2
      go_ret
      exact ⟨ret_bool H0.out, B2.out⟩
    | true =>
      by_cases h3 : r.b.size ≤ 4000
      · have d3 : decide ((r.b.size : Int) ≤ 4000) = true := by simp; omega
        go_wp2_with fail
        refine (specBare _ _).mono ?_
        rintro e w3 ⟨rfl, rfl⟩
        cases h4 : bareB r.s with
        | false =>
          have H0 : Hid (true = rsOk r) := rsOk_yes h1 h2 h3 h4
          go_wp2
          go_ret
          exact ⟨ret_bool H0.out, B2.out⟩
        | true =>
          have H0 : Hid (r.b.toList.isEmpty = rsOk r) := (void_emp r.b).trans (rsOk_is h1 h2 h3 h4)
          go_wp2
          go_ret
          exact ⟨ret_bool H0.out, B2.out⟩
      · have d3 : decide ((r.b.size : Int) ≤ 4000) = false := by simp; omega
        have H0 : Hid (false = rsOk r) := rsOk_no3 h1 h2 h3
        go_wp2
        go_ret
        exact ⟨ret_bool H0.out, B2.out⟩

def frmE (p : Int × Int) : Value := .tuple #[.int .i64 p.1, .int .i64 p.2]
theorem ret_frm {p : Int × Int} {x y : Int} (h : (x, y) = p) : Ending.returned (.tuple #[.int .i64 x, .int .i64 y]) = .returned (frmE p) := by subst h; rfl
theorem frm_bad {l : List Fl} (h : fldsOk l = false) : (3, 0) = frm l := by unfold frm; rw [if_neg (by rw [h]; decide)]
theorem frm_neither {l : List Fl} (h : fldsOk l = true) (h1 : (getF l clS).2 = false) (h2 : (getF l teS).2 = false) : (0, 0) = frm l := by unfold frm; rw [if_pos h, h1, h2]; rfl
theorem frm_both {l : List Fl} (h : fldsOk l = true) (h1 : (getF l clS).2 = true) (h2 : (getF l teS).2 = true) : (3, 0) = frm l := by unfold frm; rw [if_pos h, h1, h2]; rfl
theorem frm_len {l : List Fl} (h : fldsOk l = true) (h1 : (getF l clS).2 = true) (h2 : (getF l teS).2 = false) (h3 : numOk 10 15 (getF l clS).1 = true ∧ numV 10 15 (getF l clS).1 ≤ 4000) : (1, numV 10 15 (getF l clS).1) = frm l := by unfold frm; rw [if_pos h, if_pos h1, if_neg (by rw [h2]; decide), if_pos h3]
theorem frm_nolen {l : List Fl} (h : fldsOk l = true) (h1 : (getF l clS).2 = true) (h2 : (getF l teS).2 = false) (h3 : ¬ (numOk 10 15 (getF l clS).1 = true ∧ numV 10 15 (getF l clS).1 ≤ 4000)) : (3, 0) = frm l := by unfold frm; rw [if_pos h, if_pos h1, if_neg (by rw [h2]; decide), if_neg h3]
theorem frm_ch {l : List Fl} (h : fldsOk l = true) (h1 : (getF l clS).2 = false) (h2 : (getF l teS).2 = true) (h3 : lowS (getF l teS).1 = chS) : (2, 0) = frm l := by unfold frm; rw [if_pos h, if_neg (by rw [h1]; decide), if_pos h2, if_pos h3]
theorem frm_noch {l : List Fl} (h : fldsOk l = true) (h1 : (getF l clS).2 = false) (h2 : (getF l teS).2 = true) (h3 : ¬ lowS (getF l teS).1 = chS) : (3, 0) = frm l := by unfold frm; rw [if_pos h, if_neg (by rw [h1]; decide), if_pos h2, if_neg h3]
theorem getF_fits {l : List Fl} (n : ByteArray) (h : fldsOk l = true) : (getF l n).1.size ≤ 12060 := by
  have := getA_size l n
  rw [← getA_yes n h] at this
  exact this
set_option maxHeartbeats 1000000 in
theorem specFrm (v : Value) (l : List Fl) (w : World) (h : Fits w v l) :
    Calls Tryz.prog 20 #[v] w fun e w' => e = .returned (frmE (frm l)) ∧ Below w.heap.size w w' := by
  have hz := h.2.1
  obtain ⟨a, cap, rfl, hcap⟩ := h.1
  have HF : Hid (Fits w (.slice a l.length cap) l) := h
  clear h hcap
  cases hok : fldsOk l with
  | false =>
    have H0 : Hid ((3, 0) = frm l) := frm_bad hok
    go_enter Tryz.func20, Tryz.ntmps20
    go_wp2_with (go_at_call 69; refine (specOk _ l _ HF.out.1 hz).mono ?_; rw [hok]; rintro e w1 ⟨rfl, hb1⟩)
    go_ret2
    exact ⟨ret_frm H0.out, hb1⟩
  | true =>
    have F0 := @frm_neither l hok
    have F1 := @frm_both l hok
    have F2 := @frm_len l hok
    have F3 := @frm_nolen l hok
    have F4 := @frm_ch l hok
    have F5 := @frm_noch l hok
    have zx := getF_fits clS hok
    have zy := getF_fits teS hok
    have hg1 : Hid (∀ w, Fits w (.slice a l.length cap) l → Calls Tryz.prog 70 #[.slice a l.length cap, .string clS] w fun e w' => e = .returned (.tuple #[.string (getF l clS).1, .bool (getF l clS).2]) ∧ Below w.heap.size w w') := fun w h => specGetN _ l clS w h.1 h.2.1 h.2.2.1 (by decide)
    have hg2 : Hid (∀ w, Fits w (.slice a l.length cap) l → Calls Tryz.prog 70 #[.slice a l.length cap, .string teS] w fun e w' => e = .returned (.tuple #[.string (getF l teS).1, .bool (getF l teS).2]) ∧ Below w.heap.size w w') := fun w h => specGetN _ l teS w h.1 h.2.1 h.2.2.1 (by decide)
    generalize frm l = fr at F0 F1 F2 F3 F4 F5 ⊢
    generalize getF l clS = gx at F0 F1 F2 F3 F4 F5 zx hg1
    generalize getF l teS = gy at F0 F1 F2 F3 F4 F5 zy hg2
    obtain ⟨x, p⟩ := gx
    obtain ⟨y, q⟩ := gy
    simp only at F0 F1 F2 F3 F4 F5 zx zy hg1 hg2
    have G0 : Hid _ := F0
    have G1 : Hid _ := F1
    have G2 : Hid _ := F2
    have G3 : Hid _ := F3
    have G4 : Hid _ := F4
    have G5 : Hid _ := F5
    clear F0 F1 F2 F3 F4 F5
    unfold clS at hg1
    unfold teS at hg2
    go_enter Tryz.func20, Tryz.ntmps20
    go_wp2_with fail
    refine (specOk _ l _ HF.out.1 hz).mono ?_
    rw [hok]
    rintro e w1 ⟨rfl, hb1⟩
    have HF1 : Hid (Fits w1 (.slice a l.length cap) l) := HF.out.kept hb1
    clear HF
    go_wp2_with fail
    refine (hg1.out _ HF1.out).mono ?_
    rintro e w2 ⟨rfl, hb2'⟩
    have hb2 := past6 hb1 hb2'
    have HF2 : Hid (Fits w2 (.slice a l.length cap) l) := HF1.out.kept hb2'
    clear hb1 hb2' hg1 HF1
    go_wp2_with fail
    refine (hg2.out _ HF2.out).mono ?_
    rintro e w3 ⟨rfl, hb3'⟩
    have hb3 := past6 hb2 hb3'
    clear hb2 hb3' hg2 HF2
    go_wp2_with fail
    refine (specDig x _ (le_max (by omega))).mono ?_
    unfold numE
    rintro e w4 ⟨rfl, hb4'⟩
    have hb4 : Below w.heap.size w w4 := by first | exact past6 hb3 hb4' | (subst hb4'; exact hb3)
    clear hb3 hb4'
    cases p with
    | false =>
      cases q with
      | false =>
        have H0 : Hid ((0, 0) = fr) := G0.out rfl rfl
        clear G0 G1 G2 G3 G4 G5
        go_wp2
        go_ret2
        exact ⟨ret_frm H0.out, hb4⟩
      | true =>
        by_cases hc : lowS y = chS
        · have H0 : Hid ((2, 0) = fr) := G4.out rfl rfl hc
          have hq := same_ch (same_yes hc)
          clear G0 G1 G2 G3 G4 G5 hc
          go_wp2_with (go_at_call 72; refine (specLow y _ (le_max (by omega))).mono ?_; rintro e w5 ⟨rfl, hb5⟩)
          go_ret2
          exact ⟨ret_frm H0.out, past6 hb4 hb5⟩
        · have H0 : Hid ((3, 0) = fr) := G5.out rfl rfl hc
          have hq := same_ch (same_no hc)
          clear G0 G1 G2 G3 G4 G5 hc
          go_wp2_with (go_at_call 72; refine (specLow y _ (le_max (by omega))).mono ?_; rintro e w5 ⟨rfl, hb5⟩)
          go_ret2
          exact ⟨ret_frm H0.out, past6 hb4 hb5⟩
    | true =>
      cases q with
      | true =>
        have H0 : Hid ((3, 0) = fr) := G1.out rfl rfl
        clear G0 G1 G2 G3 G4 G5
        go_wp2
        go_ret2
        exact ⟨ret_frm H0.out, hb4⟩
      | false =>
        have g2 := G2.out rfl rfl
        have g3 := G3.out rfl rfl
        generalize numV 10 15 x = n at g2 g3 ⊢
        generalize numOk 10 15 x = o at g2 g3 ⊢
        clear G0 G1 G2 G3 G4 G5
        cases o with
        | false =>
          have H0 : Hid ((3, 0) = fr) := g3 (by simp)
          clear g2 g3
          go_wp2
          go_ret2
          exact ⟨ret_frm H0.out, hb4⟩
        | true =>
          by_cases hn : n ≤ 4000
          · have H0 : Hid ((1, n) = fr) := g2 ⟨rfl, hn⟩
            have d1 : decide (n ≤ 4000) = true := by simpa using hn
            clear g2 g3
            go_wp2
            go_ret2
            exact ⟨ret_frm H0.out, hb4⟩
          · have H0 : Hid ((3, 0) = fr) := g3 (by simp [hn])
            have d1 : decide (n ≤ 4000) = false := by simpa using hn
            clear g2 g3
            go_wp2
            go_ret2
            exact ⟨ret_frm H0.out, hb4⟩
end Go.Proofs.YteibacmohplblaaGreatDoor
namespace Go.Proofs.YteibacmohplblaaGreatDoor
open Go.RowKit

theorem cut_hit {b : UInt8} {l sub : List UInt8} (h : sub.isPrefixOf (b :: l) = true) : Lib.cut (b :: l) sub = ([], (b :: l).drop sub.length, true) := by
  unfold Lib.cut
  rw [Lib.index, if_pos h]
  simp
theorem cut_miss {b : UInt8} {l sub : List UInt8} (h : sub.isPrefixOf (b :: l) = false) : Lib.cut (b :: l) sub = if (Lib.cut l sub).2.2 = true then (b :: (Lib.cut l sub).1, (Lib.cut l sub).2.1, true) else (b :: l, [], false) := by
  have hg := Lib.index_ge l sub
  have hi : Lib.index (b :: l) sub = if Lib.index l sub == -1 then -1 else Lib.index l sub + 1 := by
    rw [Lib.index, if_neg (by rw [h]; decide)]
  unfold Lib.cut
  rw [hi]
  by_cases h1 : Lib.index l sub = -1
  · rw [h1]; simp
  · obtain ⟨n, hn⟩ : ∃ n : Nat, Lib.index l sub = n := ⟨(Lib.index l sub).toNat, by omega⟩
    rw [hn]
    have e1 : ((n : Int) == -1) = false := by simp
    have e2 : ((n : Int) + 1).toNat = n + 1 := by omega
    simp only [e1, Bool.false_eq_true, if_false, if_pos (show (0 : Int) ≤ (n : Int) + 1 by omega), if_pos (show (0 : Int) ≤ (n : Int) by omega), if_true, e2, Int.toNat_natCast, List.take_succ_cons]
    rw [show n + 1 + sub.length = (n + sub.length) + 1 from by omega, List.drop_succ_cons]
theorem cut_ln : ∀ l : List UInt8, Lib.cut l [13, 10] = match lnC l with | none => (l, [], false) | some (x, r) => (x, r, true)
  | [] => rfl
  | [c] => by
    have h : ([13, 10] : List UInt8).isPrefixOf [c] = false := by simp [List.isPrefixOf]
    rw [cut_miss h]; rfl
  | c :: d :: t => by
    by_cases h : c = 13 ∧ d = 10
    · obtain ⟨rfl, rfl⟩ := h
      rw [cut_hit (by simp [List.isPrefixOf])]
      simp [lnC]
    · have hp : ([13, 10] : List UInt8).isPrefixOf (c :: d :: t) = false := by
        simp [List.isPrefixOf]
        intro e1 e2
        exact h ⟨e1.symm, e2.symm⟩
      rw [cut_miss hp, cut_ln (d :: t)]
      conv => rhs; unfold lnC
      rw [if_neg h]
      cases e : lnC (d :: t) with
      | none => simp
      | some p => obtain ⟨x, r⟩ := p; simp
theorem cut_col : ∀ l : List UInt8, Lib.cut l [58] = match colL l with | none => (l, [], false) | some (x, r) => (x, r, true)
  | [] => rfl
  | c :: t => by
    by_cases h : c = 58
    · subst h
      rw [cut_hit (by simp [List.isPrefixOf])]
      simp [colL]
    · have hp : ([58] : List UInt8).isPrefixOf (c :: t) = false := by
        simp [List.isPrefixOf]
        exact fun e => h e.symm
      rw [cut_miss hp, cut_col t]
      conv => rhs; unfold colL
      rw [if_neg h]
      cases e : colL t with
      | none => simp
      | some p => obtain ⟨x, r⟩ := p; simp

/-! ### A line, byte by byte -/
def LnAt (s : ByteArray) (k i : Nat) : Prop := lnS (s.data.toList.drop k) = (lnS (s.data.toList.drop i)).map fun p => (cutL s.data.toList k i ++ p.1, p.2)
theorem LnAt.start (s : ByteArray) (k : Nat) : LnAt s k k := by
  unfold LnAt
  rw [cutL_self]
  cases lnS (s.data.toList.drop k) with
  | none => rfl
  | some p => rfl
theorem LnAt.next {s : ByteArray} {k i : Nat} (h : LnAt s k i) (hi : i < s.size) (hk : k ≤ i) (h13 : s[i] ≠ 13) (h10 : s[i] ≠ 10) : LnAt s k (i + 1) := by
  unfold LnAt at *
  rw [h, drop_at' s i hi, lnS_more h13 h10, Option.map_map]
  congr 1
  funext p
  show (cutL s.data.toList k i ++ (s[i] :: p.1), p.2) = (cutL s.data.toList k (i + 1) ++ p.1, p.2)
  rw [← cutL_next hi hk]
  simp
theorem LnAt.ten {s : ByteArray} {k i : Nat} (h : LnAt s k i) (hi : i < s.size) (h10 : s[i] = 10) : lnS (s.data.toList.drop k) = none := by
  unfold LnAt at h
  rw [h, drop_at' s i hi, lnS_ten h10]; rfl
theorem LnAt.done {s : ByteArray} {k i : Nat} (h : LnAt s k i) (hi : ¬ i < s.size) : lnS (s.data.toList.drop k) = none := by
  unfold LnAt at h
  rw [h, drop_past' s i hi]; rfl
theorem LnAt.lone {s : ByteArray} {k i : Nat} (h : LnAt s k i) (hi : i < s.size) (h13 : s[i] = 13) (h2 : ∀ hj : i + 1 < s.size, s[i + 1] ≠ 10) : lnS (s.data.toList.drop k) = none := by
  unfold LnAt at h
  rw [h, drop_at' s i hi, lnS_lone h13]
  · rfl
  · intro d t e
    by_cases hj : i + 1 < s.size
    · rw [drop_at' s (i + 1) hj] at e
      injection e with e1 e2
      rw [← e1]; exact h2 hj
    · rw [drop_past' s (i + 1) hj] at e; cases e
theorem LnAt.found {s : ByteArray} {k i : Nat} (h : LnAt s k i) (hj : i + 1 < s.size) (h13 : s[i]'(by omega) = 13) (h10 : s[i + 1] = 10) : lnS (s.data.toList.drop k) = some (cutL s.data.toList k i, s.data.toList.drop (i + 2)) := by
  unfold LnAt at h
  rw [h, drop_at' s i (by omega), drop_at' s (i + 1) hj, lnS_end h13 h10]
  simp
theorem byte_is {a b : UInt8} (h : (a.toNat : Int) = (b.toNat : Int)) : a = b := UInt8.toNat_inj.1 (by omega)
/-- What the specification's line answers. -/
def lineE (s : ByteArray) : Option (List UInt8 × List UInt8) → Value
  | none => .tuple #[.string ⟨#[]⟩, .int .i64 0, .bool false]
  | some (x, r) => .tuple #[.string ⟨x.toArray⟩, .int .i64 ((s.size : Int) - (r.length : Int)), .bool true]
theorem lineE_none {s : ByteArray} {o : Option (List UInt8 × List UInt8)} (h : o = none) : Ending.returned (.tuple #[.string ⟨#[]⟩, .int .i64 0, .bool false]) = .returned (lineE s o) := by subst h; rfl
theorem lineE_some {s : ByteArray} {o : Option (List UInt8 × List UInt8)} {k i : Nat} (h : o = some (cutL s.data.toList k i, s.data.toList.drop (i + 2))) (hi : i + 1 < s.size) : Ending.returned (.tuple #[.string (s.extract k i), .int .i64 ((i : Int) + 2), .bool true]) = .returned (lineE s o) := by
  subst h
  have e : (s.data.toList.drop (i + 2)).length = s.size - (i + 2) := by simp
  show _ = Ending.returned (.tuple #[.string ⟨(cutL s.data.toList k i).toArray⟩, .int .i64 ((s.size : Int) - ((s.data.toList.drop (i + 2)).length : Int)), .bool true])
  rw [e, cut_text s k i (by omega)]
  have : ((s.size : Int) - ((s.size - (i + 2) : Nat) : Int)) = (i : Int) + 2 := by omega
  rw [this]
end Go.Proofs.YteibacmohplblaaGreatDoor
namespace Go.Proofs.YteibacmohplblaaGreatDoor
open Go.RowKit

/-- What a walk reads of an owned slice of texts. -/
theorem OwnsS.at {w : World} {B g n cap : Nat} {l : List ByteArray} (h : OwnsS w B (.slice (some ⟨g, 0, none⟩) n cap) l) (hn : n = l.length) : ∀ j (hj : j < l.length), w.cell? ⟨g, j, none⟩ = some (.string l[j]) := by
  intro j hj
  subst hn
  have := World.ownsRow.cellAt h.2 j (by omega)
  rw [this]
  simp [hj]

/-- The decimal digit. -/
def decB (d : Nat) : UInt8 := UInt8.ofNat (48 + d)
/-- The decimal digits of n, none of 0. -/
def decF : Nat → Nat → List UInt8
  | 0, _ => []
  | f + 1, n => if n = 0 then [] else decF f (n / 10) ++ [decB (n % 10)]
theorem decF_zero (f : Nat) : decF f 0 = [] := by cases f <;> simp [decF]
theorem decF_step (f n : Nat) (h : 0 < n) : decF (f + 1) n = decF f (n / 10) ++ [decB (n % 10)] := by simp [decF]; omega
/-- The mark of number n. -/
def mkT (n : Nat) : ByteArray := ⟨(109 :: decF 20 n).toArray⟩
theorem dec_more {n m f : Nat} {x : ByteArray} (hm : m < 10 ^ f) (h0 : 0 < m) (h : decF 20 n = decF f m ++ x.data.toList) : ∃ f', m / 10 < 10 ^ f' ∧ decF 20 n = decF f' (m / 10) ++ (decB (m % 10) :: x.data.toList) := by
  cases f with
  | zero => simp at hm; omega
  | succ f =>
    refine ⟨f, ?_, ?_⟩
    · rw [Nat.pow_succ] at hm
      exact Nat.div_lt_of_lt_mul (by rw [Nat.mul_comm]; exact hm)
    · rw [h, decF_step f m h0]
      simp
theorem dec_byte (m : Nat) : (48 + (m : Int) % 10) = ((decB (m % 10)).toNat : Int) := by
  have h : (decB (m % 10)).toNat = 48 + m % 10 := by
    unfold decB
    rw [UInt8.toNat_ofNat']
    exact Nat.mod_eq_of_lt (by omega)
  rw [h]
  omega
theorem byte_text (w : World) (n : Int) (c : UInt8) (h : n = (c.toNat : Int)) : (convert 22 9 (.slice (some ⟨w.heap.size, 0, none⟩) 1 1)).run Tryz.prog (w.alloc (.cells #[.int .u8 n] 5)) = .ok (.string ⟨#[c]⟩) (w.alloc (.cells #[.int .u8 n] 5)) := by
  subst h
  refine run_convert_bytes_back (P := Tryz.prog) _ 22 9 5 ⟨w.heap.size, 0, none⟩ 1 [c] Tryz.underlying22 Tryz.underlying5 Tryz.underlying9 (fun q hq => ?_)
  have e : q = 0 := by simp at hq; exact hq
  subst e
  show (w.alloc (.cells #[.int .u8 (c.toNat : Int)] 5)).cell? ⟨w.heap.size, 0, none⟩ = _
  rw [World.cell?_alloc_mark]
  rfl
theorem cat_cons (c : UInt8) (x : ByteArray) : ((⟨#[c]⟩ : ByteArray) ++ x).data.toList = c :: x.data.toList := by
  rw [ByteArray.data_append, Array.toList_append]; rfl
theorem size_cat (c : UInt8) (x : ByteArray) : ((⟨#[c]⟩ : ByteArray) ++ x).size = x.size + 1 := by
  rw [ByteArray.size_append]
  show 1 + x.size = x.size + 1
  omega
theorem mkT_is {n : Nat} {x : ByteArray} (h : decF 20 n = x.data.toList) : (⟨#[109]⟩ : ByteArray) ++ x = mkT n := by
  apply ext_bytes
  rw [cat_cons, ← h]
  rfl
theorem ret_text {a b : ByteArray} (h : a = b) : Ending.returned (.string a) = .returned (.string b) := by rw [h]

set_option maxHeartbeats 400000 in
theorem markText (n : Nat) (h1 : 1 ≤ n) (h2 : n ≤ 100000000) (w : World) :
    Calls Tryz.prog 115 #[.int .i64 n] w fun e w' => e = .returned (.string (mkT n)) ∧ Below w.heap.size w w' := by
  have hbound : n < 10 ^ 20 := by omega
  have HB : Hid (n < 10 ^ 20) := hbound
  clear hbound
  go_enter Tryz.func115, Tryz.ntmps115
  go_wp2
  go_loopw [0, 3] (fun a b wr => ∃ (m f : Nat) (x : ByteArray), a = .int .i64 m ∧ b = .string x ∧ m ≤ 100000000 ∧ x.size + m ≤ 100000000 ∧ Below w.heap.size w wr ∧ Hid (m < 10 ^ f) ∧ Hid (decF 20 n = decF f m ++ x.data.toList)) (fun a _ _ => (intOf a).toNat)
  case atStart => exact ⟨n, 20, ⟨#[]⟩, rfl, rfl, h2, by show 0 + n ≤ _; omega, Below.refl _ _, HB, by show decF 20 n = decF 20 n ++ []; rw [List.append_nil]⟩
  case round =>
    obtain ⟨m, f, x, rfl, rfl, hm, hxm, hb, hmf, hx⟩ := hrel
    by_cases h0 : 0 < m
    · obtain ⟨f', g1, g2⟩ := dec_more hmf.out h0 hx.out
      have HM : Hid (m / 10 < 10 ^ f') := g1
      have HX : Hid (decF 20 n = decF f' (m / 10) ++ (decB (m % 10) :: x.data.toList)) := g2
      clear g1 g2
      have hback := byte_text wr (48 + (m : Int) % 10) (decB (m % 10)) (dec_byte m)
      have hbs := hb.size
      go_wp2
      go_roundw
      case rel => exact ⟨m / 10, f', _, by go_num, rfl, by omega, by rw [size_cat]; omega, hb.alloc hbs _, HM, by rw [cat_cons]; exact HX⟩
      case measure => simp [intOf]; omega
    · obtain rfl : m = 0 := by omega
      have HX : Hid (decF 20 n = x.data.toList) := by
        show decF 20 n = x.data.toList
        rw [hx.out, decF_zero]; rfl
      go_wp2
      go_ret
      exact ⟨ret_text (mkT_is HX.out), hb⟩

/-- The first k texts are marks, from m on; the others are as they were. -/
def marked (m : Nat) (l : List ByteArray) (k : Nat) : List ByteArray := (List.range k).map (fun j => mkT (m + j)) ++ l.drop k
theorem marked_length (m : Nat) (l : List ByteArray) (k : Nat) (h : k ≤ l.length) : (marked m l k).length = l.length := by
  unfold marked; simp; omega
theorem marked_zero (m : Nat) (l : List ByteArray) : marked m l 0 = l := by simp [marked]
theorem marked_next (m : Nat) (l : List ByteArray) (k : Nat) (h : k < l.length) : (marked m l k).set k (mkT (m + k)) = marked m l (k + 1) := by
  unfold marked
  have e : ((List.range k).map (fun j => mkT (m + j))).length = k := by simp
  rw [List.set_append_right _ _ (by omega), e, Nat.sub_self, List.range_succ, List.map_append, List.append_assoc]
  congr 1
  rw [List.drop_eq_getElem_cons h, List.set_cons_zero]
  rfl
/-- All of them are marks. -/
def marksL (m n : Nat) : List ByteArray := (List.range n).map (fun j => mkT (m + j))
theorem marked_all (m : Nat) (l : List ByteArray) : marked m l l.length = marksL m l.length := by simp [marked, marksL]
theorem marksL_at (m n j : Nat) (h : j < (marksL m n).length) : (marksL m n)[j] = mkT (m + j) := by simp [marksL]
theorem marksL_length (m n : Nat) : (marksL m n).length = n := by simp [marksL]

/-- A text stored into an owned slice. -/
theorem OwnsS.put {w : World} {B g cap : Nat} {l : List ByteArray} {n : Nat} (hn : n = l.length) (h : OwnsS w B (.slice (some ⟨g, 0, none⟩) n cap) l) (k : Nat) (c : ByteArray) : OwnsS (w.setCell ⟨g, k, none⟩ (.string c)) B (.slice (some ⟨g, 0, none⟩) n cap) (l.set k c) := by
  subst hn
  obtain ⟨⟨g', cap', hv, hb, hg⟩, ho⟩ := h
  have h2 := (ho.stored k (.string c)).1
  simp only [Value.slice.injEq, Option.some.injEq, Addr.mk.injEq, and_true, true_and] at hv
  obtain ⟨rfl, rfl⟩ := hv
  refine ⟨⟨g, cap, by rw [List.length_set], hb, by simpa [World.setCell] using hg⟩, ?_⟩
  rw [List.length_set, List.map_set]
  exact h2
theorem OwnsS.free {w : World} {B g n cap : Nat} {l : List ByteArray} (hn : n = l.length) (h : OwnsS w B (.slice (some ⟨g, 0, none⟩) n cap) l) (j : Nat) : w.frozen? ⟨g, j, none⟩ = false := by
  subst hn
  exact h.2.frozenAt j

/-- What holds of every block but g. -/
def But (g : Nat) (w w' : World) : Prop := w'.os = w.os ∧ w'.tape = w.tape ∧ w'.output = w.output ∧ w.heap.size ≤ w'.heap.size ∧ ∀ k, k < w.heap.size → k ≠ g → w'.heap[k]? = w.heap[k]?
theorem But.refl (g : Nat) (w : World) : But g w w := ⟨rfl, rfl, rfl, Nat.le_refl _, fun _ _ _ => rfl⟩
theorem But.below {g : Nat} {a w w' : World} (h : But g a w) (hb : Below w.heap.size w w') : But g a w' :=
  ⟨hb.os.trans h.1, hb.tape.trans h.2.1, hb.output.trans h.2.2.1, Nat.le_trans h.2.2.2.1 hb.size, fun k hk hg => (hb.block k (by have := h.2.2.2.1; omega)).trans (h.2.2.2.2 k hk hg)⟩
theorem But.put {g : Nat} {a w : World} (h : But g a w) (k : Nat) (v : Value) : But g a (w.setCell ⟨g, k, none⟩ v) :=
  ⟨h.1, h.2.1, h.2.2.1, by simpa [World.setCell] using h.2.2.2.1, fun j hj hg => (Below.heap_setCell _ _ _ _ hg).trans (h.2.2.2.2 j hj hg)⟩

end Go.Proofs.YteibacmohplblaaGreatDoor
