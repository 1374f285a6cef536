/-
  A request and a response by value; the specification's RequestOk, ResponseOk and Framing by their contracts.
-/
import Derived.Test.YtemmgfnepdgpbaaGreatDoorK18
namespace Go.Proofs.YtemmgfnepdgpbaaGreatDoor
open Go.RowKit
set_option linter.unusedVariables false

def rsV (r : Rs) (v : Value) : Value := .agg #[.int .i64 r.s, v, .string r.b]
/-- The cells of a request in block b. -/
structure RqB (w : World) (b : Nat) (r : Rq) (v : Value) : Prop where
  c0 : w.cell? ⟨b, 0, none⟩ = some (.string r.m)
  c1 : w.cell? ⟨b, 1, none⟩ = some (.string r.t)
  c2 : w.cell? ⟨b, 2, none⟩ = some v
  c3 : w.cell? ⟨b, 3, none⟩ = some (.string r.b)
  fz : ∀ k, w.frozen? ⟨b, k, none⟩ = false
  hi : b < w.heap.size
structure RsB (w : World) (b : Nat) (r : Rs) (v : Value) : Prop where
  c0 : w.cell? ⟨b, 0, none⟩ = some (.int .i64 r.s)
  c1 : w.cell? ⟨b, 1, none⟩ = some v
  c2 : w.cell? ⟨b, 2, none⟩ = some (.string r.b)
  fz : ∀ k, w.frozen? ⟨b, k, none⟩ = false
  hi : b < w.heap.size
theorem RqB.new (w : World) (r : Rq) (v : Value) (t : TypeId) : RqB (w.alloc (.cells #[.string r.m, .string r.t, v, .string r.b] t)) w.heap.size r v where
  c0 := World.cell?_alloc_mark _ _ _ _ _
  c1 := World.cell?_alloc_mark _ _ _ _ _
  c2 := World.cell?_alloc_mark _ _ _ _ _
  c3 := World.cell?_alloc_mark _ _ _ _ _
  fz := fun k => by rw [World.frozen?_alloc_mark]; simp
  hi := by simp
theorem RsB.new (w : World) (r : Rs) (v : Value) (t : TypeId) : RsB (w.alloc (.cells #[.int .i64 r.s, v, .string r.b] t)) w.heap.size r v where
  c0 := World.cell?_alloc_mark _ _ _ _ _
  c1 := World.cell?_alloc_mark _ _ _ _ _
  c2 := World.cell?_alloc_mark _ _ _ _ _
  fz := fun k => by rw [World.frozen?_alloc_mark]; simp
  hi := by simp
theorem RqB.next {w w' : World} {b : Nat} {r : Rq} {v : Value} (h : RqB w b r v) (hb : Below w.heap.size w w') : RqB w' b r v := by
  have e : w'.heap[b]? = w.heap[b]? := hb.block b h.hi
  have k : ∀ k, w'.cell? ⟨b, k, none⟩ = w.cell? ⟨b, k, none⟩ := fun k => World.cell?_of_block (a := ⟨b, k, none⟩) e
  exact ⟨(k 0).trans h.c0, (k 1).trans h.c1, (k 2).trans h.c2, (k 3).trans h.c3, fun j => (World.frozen?_of_block (a := ⟨b, j, none⟩) e).trans (h.fz j), Nat.lt_of_lt_of_le h.hi hb.size⟩
theorem RsB.next {w w' : World} {b : Nat} {r : Rs} {v : Value} (h : RsB w b r v) (hb : Below w.heap.size w w') : RsB w' b r v := by
  have e : w'.heap[b]? = w.heap[b]? := hb.block b h.hi
  have k : ∀ k, w'.cell? ⟨b, k, none⟩ = w.cell? ⟨b, k, none⟩ := fun k => World.cell?_of_block (a := ⟨b, k, none⟩) e
  exact ⟨(k 0).trans h.c0, (k 1).trans h.c1, (k 2).trans h.c2, fun j => (World.frozen?_of_block (a := ⟨b, j, none⟩) e).trans (h.fz j), Nat.lt_of_lt_of_le h.hi hb.size⟩
theorem RqB.alloc {w : World} {b : Nat} {r : Rq} {v : Value} (h : RqB w b r v) (o : Obj) : RqB (w.alloc o) b r v := h.next ((Below.refl _ w).alloc (Nat.le_refl _) _)
theorem RsB.alloc {w : World} {b : Nat} {r : Rs} {v : Value} (h : RsB w b r v) (o : Obj) : RsB (w.alloc o) b r v := h.next ((Below.refl _ w).alloc (Nat.le_refl _) _)
theorem Fits.alloc {w : World} {v : Value} {l : List Fl} (h : Fits w v l) (o : Obj) : Fits (w.alloc o) v l := h.kept ((Below.refl _ w).alloc (Nat.le_refl _) _)
/-- What a walk is told of a request, of a response that came in. -/
def RqIn (w : World) (v : Value) (r : Rq) : Prop := Fits w v r.l ∧ r.m.size ≤ 1048576 ∧ r.t.size ≤ 1048576 ∧ r.b.size ≤ 1048576
def RsIn (w : World) (v : Value) (r : Rs) : Prop := Fits w v r.l ∧ r.b.size ≤ 1048576
theorem RqIn.kept {w w' : World} {v : Value} {r : Rq} (h : RqIn w v r) (hb : Below w.heap.size w w') : RqIn w' v r := ⟨h.1.kept hb, h.2⟩
theorem RsIn.kept {w w' : World} {v : Value} {r : Rs} (h : RsIn w v r) (hb : Below w.heap.size w w') : RsIn w' v r := ⟨h.1.kept hb, h.2⟩
theorem le_max {n : Nat} (h : n ≤ 1048576) : n ≤ maxLen := by unfold maxLen; omega

theorem specIn6 (x lo hi : Int) (w : World) :
    Calls Tryz.prog 33 #[.int .i64 x, .int .i64 lo, .int .i64 hi] w fun e w' => e = .returned (.bool (decide (lo ≤ x ∧ x ≤ hi))) ∧ w = w' := by
  obtain ⟨b, hb⟩ : ∃ b, decide (lo ≤ x ∧ x ≤ hi) = b := ⟨_, rfl⟩
  rw [hb]
  by_cases h1 : lo ≤ x
  · have H0 : Hid (decide (x ≤ hi) = b) := by show decide (x ≤ hi) = b; rw [← hb]; simp [h1]
    have d1 : decide (lo ≤ x) = true := by simpa using h1
    clear hb
    go_enter Tryz.func33, Tryz.ntmps33
    go_wp2
    go_ret
    exact ⟨ret_bool H0.out, rfl⟩
  · have H0 : Hid (false = b) := by show false = b; rw [← hb]; simp [h1]
    have d1 : decide (lo ≤ x) = false := by simpa using h1
    clear hb
    go_enter Tryz.func33, Tryz.ntmps33
    go_wp2
    go_ret
    exact ⟨ret_bool H0.out, rfl⟩
theorem rsOk_no1 {r : Rs} (h : decide (200 ≤ r.s ∧ r.s ≤ 599) = false) : false = rsOk r := by unfold rsOk; rw [h]; rfl
theorem rsOk_no2 {r : Rs} (h : decide (200 ≤ r.s ∧ r.s ≤ 599) = true) (h2 : ownB r.l = false) : false = rsOk r := by unfold rsOk; rw [h, h2]; rfl
theorem rsOk_no3 {r : Rs} (h : decide (200 ≤ r.s ∧ r.s ≤ 599) = true) (h2 : ownB r.l = true) (h3 : ¬ r.b.size ≤ 4000) : false = rsOk r := by unfold rsOk; rw [h, h2, decide_eq_false h3]; rfl
theorem rsOk_yes {r : Rs} (h : decide (200 ≤ r.s ∧ r.s ≤ 599) = true) (h2 : ownB r.l = true) (h3 : r.b.size ≤ 4000) (h4 : bareB r.s = false) : true = rsOk r := by unfold rsOk; rw [h, h2, decide_eq_true h3, h4]; rfl
theorem rsOk_is {r : Rs} (h : decide (200 ≤ r.s ∧ r.s ≤ 599) = true) (h2 : ownB r.l = true) (h3 : r.b.size ≤ 4000) (h4 : bareB r.s = true) : decide (r.b.size = 0) = rsOk r := by unfold rsOk; rw [h, h2, decide_eq_true h3, h4]; rfl
theorem void_emp (b : ByteArray) : b.toList.isEmpty = decide (b.size = 0) := by
  rw [ByteArray.toList_eq]
  by_cases h : b.size = 0
  · rw [decide_eq_true h, void_list h]; rfl
  · rw [decide_eq_false h, List.isEmpty_eq_false_iff]
    intro e
    apply h
    have : b.data.toList.length = b.size := by simp
    rw [e] at this
    simpa using this.symm
theorem ch_list : chS.toList = [99, 104, 117, 110, 107, 101, 100] := by rw [ByteArray.toList_eq]; rfl
theorem same_ch {y : ByteArray} {b : Bool} (h : (y.toList == chS.toList) = b) : (y.toList == [99, 104, 117, 110, 107, 101, 100]) = b := by rw [ch_list] at h; exact h
set_option maxHeartbeats 1000000 in
theorem specRsOk (r : Rs) (v : Value) (w : World) (h : RsIn w v r) :
    Calls Tryz.prog 31 #[rsV r v] w fun e w' => e = .returned (.bool (rsOk r)) ∧ Below w.heap.size w w' := by
  obtain ⟨hf, z3⟩ := h
  have hfs := hf.1
  obtain ⟨a, cap, rfl, hcap⟩ := hfs
  clear hcap
  unfold rsV
  have F0 : Hid (Fits (w.alloc (.cells #[.int .i64 r.s, .slice a r.l.length cap, .string r.b] 26)) (.slice a r.l.length cap) r.l) := hf.alloc _
  have Q0 : Hid (RsB (w.alloc (.cells #[.int .i64 r.s, .slice a r.l.length cap, .string r.b] 26)) w.heap.size r (.slice a r.l.length cap)) := RsB.new w r _ _
  have B0 : Hid (Below w.heap.size w (w.alloc (.cells #[.int .i64 r.s, .slice a r.l.length cap, .string r.b] 26))) := (Below.refl _ w).alloc (Nat.le_refl _) _
  clear hf
  have hq1 : r.b.size ≤ 9223372036854775807 := by omega
  go_enter Tryz.func31, Tryz.ntmps31
  go_wp2_with fail
  refine (specIn6 _ _ _ _).mono ?_
  rintro e w1 ⟨rfl, rfl⟩
  cases h1 : decide (200 ≤ r.s ∧ r.s ≤ 599) with
  | false =>
    have H0 : Hid (false = rsOk r) := rsOk_no1 h1
    go_wp2
    go_ret
    exact ⟨ret_bool H0.out, B0.out⟩
  | true =>
    go_wp2_with fail
    refine (specOwn _ r.l _ F0.out).mono ?_
    rintro e w2 ⟨rfl, hb2⟩
    have Q2 : Hid (RsB w2 w.heap.size r (.slice a r.l.length cap)) := Q0.out.next hb2
    have B2 : Hid (Below w.heap.size w w2) := past6 B0.out hb2
    clear Q0 B0 F0 hb2
    have a0 := Q2.out.c0
    have a2 := Q2.out.c2
    cases h2 : ownB r.l with
    | false =>
      have H0 : Hid (false = rsOk r) := rsOk_no2 h1 h2
      go_wp2
      go_ret
      exact ⟨ret_bool H0.out, B2.out⟩
    | true =>
      by_cases h3 : r.b.size ≤ 4000
      · have d3 : decide ((r.b.size : Int) ≤ 4000) = true := by simp; omega
        go_wp2_with fail
        refine (specBare _ _).mono ?_
        rintro e w3 ⟨rfl, rfl⟩
        cases h4 : bareB r.s with
        | false =>
          have H0 : Hid (true = rsOk r) := rsOk_yes h1 h2 h3 h4
          go_wp2
          go_ret
          exact ⟨ret_bool H0.out, B2.out⟩
        | true =>
          have H0 : Hid (r.b.toList.isEmpty = rsOk r) := (void_emp r.b).trans (rsOk_is h1 h2 h3 h4)
          go_wp2
          go_ret
          exact ⟨ret_bool H0.out, B2.out⟩
      · have d3 : decide ((r.b.size : Int) ≤ 4000) = false := by simp; omega
        have H0 : Hid (false = rsOk r) := rsOk_no3 h1 h2 h3
        go_wp2
        go_ret
        exact ⟨ret_bool H0.out, B2.out⟩

def frmE (p : Int × Int) : Value := .tuple #[.int .i64 p.1, .int .i64 p.2]
theorem ret_frm {p : Int × Int} {x y : Int} (h : (x, y) = p) : Ending.returned (.tuple #[.int .i64 x, .int .i64 y]) = .returned (frmE p) := by subst h; rfl
theorem frm_bad {l : List Fl} (h : fldsOk l = false) : (3, 0) = frm l := by unfold frm; rw [if_neg (by rw [h]; decide)]
theorem frm_neither {l : List Fl} (h : fldsOk l = true) (h1 : (getF l clS).2 = false) (h2 : (getF l teS).2 = false) : (0, 0) = frm l := by unfold frm; rw [if_pos h, h1, h2]; rfl
theorem frm_both {l : List Fl} (h : fldsOk l = true) (h1 : (getF l clS).2 = true) (h2 : (getF l teS).2 = true) : (3, 0) = frm l := by unfold frm; rw [if_pos h, h1, h2]; rfl
theorem frm_len {l : List Fl} (h : fldsOk l = true) (h1 : (getF l clS).2 = true) (h2 : (getF l teS).2 = false) (h3 : numOk 10 15 (getF l clS).1 = true ∧ numV 10 15 (getF l clS).1 ≤ 4000) : (1, numV 10 15 (getF l clS).1) = frm l := by unfold frm; rw [if_pos h, if_pos h1, if_neg (by rw [h2]; decide), if_pos h3]
theorem frm_nolen {l : List Fl} (h : fldsOk l = true) (h1 : (getF l clS).2 = true) (h2 : (getF l teS).2 = false) (h3 : ¬ (numOk 10 15 (getF l clS).1 = true ∧ numV 10 15 (getF l clS).1 ≤ 4000)) : (3, 0) = frm l := by unfold frm; rw [if_pos h, if_pos h1, if_neg (by rw [h2]; decide), if_neg h3]
theorem frm_ch {l : List Fl} (h : fldsOk l = true) (h1 : (getF l clS).2 = false) (h2 : (getF l teS).2 = true) (h3 : lowS (getF l teS).1 = chS) : (2, 0) = frm l := by unfold frm; rw [if_pos h, if_neg (by rw [h1]; decide), if_pos h2, if_pos h3]
theorem frm_noch {l : List Fl} (h : fldsOk l = true) (h1 : (getF l clS).2 = false) (h2 : (getF l teS).2 = true) (h3 : ¬ lowS (getF l teS).1 = chS) : (3, 0) = frm l := by unfold frm; rw [if_pos h, if_neg (by rw [h1]; decide), if_pos h2, if_neg h3]
theorem getF_fits {l : List Fl} (n : ByteArray) (h : fldsOk l = true) : (getF l n).1.size ≤ 12060 := by
  have := getA_size l n
  rw [← getA_yes n h] at this
  exact this
end Go.Proofs.YtemmgfnepdgpbaaGreatDoor
