/-
  The specification's RequestOk, ResponseOk and Framing by their contracts.
  A request and a response by value; the specification's RequestOk, ResponseOk and Framing by their contracts.
  Plain facts: the library's Cut at a line end and at a colon; a line as the specification reads it, byte by byte.
-/
import Derived.Test.YtmgmphkncgochaaGreatDoorG11
import Derived.Test.YtmgmphkncgochaaGreatDoorG08
import Derived.Test.YtmgmphkncgochaaGreatDoorG06
import Derived.Lib.IndexMore
namespace Go.Proofs.YtmgmphkncgochaaGreatDoor
open Go.RowKit
set_option linter.unusedVariables false

theorem capN_yes {r : Int} (h : 65 ≤ r ∧ r ≤ 90) : capN r = true := decide_eq_true h
theorem capN_no {r : Int} (h : ¬ (65 ≤ r ∧ r ≤ 90)) : capN r = false := decide_eq_false h
theorem tarN_yes {r : Int} (h : 33 ≤ r ∧ r ≤ 126) : tarN r = true := decide_eq_true h
theorem tarN_no {r : Int} (h : ¬ (33 ≤ r ∧ r ≤ 126)) : tarN r = false := decide_eq_false h
theorem metB_no {s : ByteArray} (h : false = allB capN s.data.toList) : false = metB s := by unfold metB; rw [← h]; rfl
theorem metB_yes {s : ByteArray} (h : true = allB capN s.data.toList) : tokB s = metB s := by unfold metB; rw [← h]; rfl
theorem tarB_out {s : ByteArray} (h : s.size < 1 ∨ 200 < s.size) : false = tarB s := by
  unfold tarB; rw [decide_eq_false (by omega)]; rfl
theorem tarB_in {s : ByteArray} {b : Bool} (h1 : 1 ≤ s.size) (h2 : s.size ≤ 200) (h : b = allB tarN s.data.toList) : b = tarB s := by
  unfold tarB; rw [decide_eq_true ⟨h1, h2⟩, ← h]; rfl

set_option maxHeartbeats 400000 in
theorem specMet (s : ByteArray) (w : World) (hs : s.size ≤ maxLen) :
    Calls Tryz.prog 42 #[.string s] w fun e w' => e = .returned (.bool (metB s)) ∧ Below w.heap.size w w' := by
  have hm := hs
  unfold maxLen at hs
  go_enter Tryz.func42, Tryz.ntmps42
  go_wp2
  go_loop [3] (fun i => ∃ k : Nat, k ≤ s.size ∧ i = .int .i64 k ∧ Hid (allB capN (s.data.toList.take k) = true)) (fun i => s.size - (intOf i).toNat)
  case atStart => exact ⟨0, Nat.zero_le _, rfl, allB_nil _ _⟩
  case round =>
    obtain ⟨k, hk, rfl, ha⟩ := hrel
    by_cases hlt : k < s.size
    · by_cases hl : (s[k].toNat : Int) < 65
      · have HF : Hid (false = metB s) := metB_no (allB_not hlt (capN_no (by omega)))
        go_wp2
        go_ret
        exact ⟨ret_bool HF.out, Below.refl _ _⟩
      · by_cases hg : 90 < (s[k].toNat : Int)
        · have HF : Hid (false = metB s) := metB_no (allB_not hlt (capN_no (by omega)))
          go_wp2
          go_ret
          exact ⟨ret_bool HF.out, Below.refl _ _⟩
        · have HV : Hid (allB capN (s.data.toList.take (k + 1)) = true) := allB_step hlt ha.out (capN_yes (by omega))
          go_wp2
          go_round
          case rel => exact ⟨k + 1, by omega, by go_num, HV⟩
          case measure => simp [intOf]; omega
    · have HT : Hid (tokB s = metB s) := metB_yes (allB_end hlt ha.out)
      go_wp2_with (go_at_call 82; refine (specTok s _ hm).mono ?_; rintro e w1 ⟨rfl, hb1⟩)
      go_ret
      exact ⟨ret_bool HT.out, hb1⟩

set_option maxHeartbeats 400000 in
theorem specTar (s : ByteArray) (w : World) (hs : s.size ≤ maxLen) :
    Calls Tryz.prog 43 #[.string s] w fun e w' => e = .returned (.bool (tarB s)) ∧ Below w.heap.size w w' := by
  unfold maxLen at hs
  by_cases h1 : s.size < 1
  · have HF : Hid (false = tarB s) := tarB_out (.inl h1)
    have d1 : decide ((s.size : Int) < 1) = true := by simp; omega
    go_enter Tryz.func43, Tryz.ntmps43
    go_wp2
    go_ret
    exact ⟨ret_bool HF.out, Below.refl _ _⟩
  · by_cases h2 : 200 < s.size
    · have HF : Hid (false = tarB s) := tarB_out (.inr h2)
      have d1 : decide ((s.size : Int) < 1) = false := by simp; omega
      have d2 : decide (200 < (s.size : Int)) = true := by simp; omega
      go_enter Tryz.func43, Tryz.ntmps43
      go_wp2
      go_ret
      exact ⟨ret_bool HF.out, Below.refl _ _⟩
    · have d1 : decide ((s.size : Int) < 1) = false := by simp; omega
      have d2 : decide (200 < (s.size : Int)) = false := by simp; omega
      go_enter Tryz.func43, Tryz.ntmps43
      go_wp2
      go_loop [3] (fun i => ∃ k : Nat, k ≤ s.size ∧ i = .int .i64 k ∧ Hid (allB tarN (s.data.toList.take k) = true)) (fun i => s.size - (intOf i).toNat)
      case atStart => exact ⟨0, Nat.zero_le _, rfl, allB_nil _ _⟩
      case round =>
        obtain ⟨k, hk, rfl, ha⟩ := hrel
        by_cases hlt : k < s.size
        · by_cases hl : (s[k].toNat : Int) < 33
          · have HF : Hid (false = tarB s) := tarB_in (by omega) (by omega) (allB_not hlt (tarN_no (by omega)))
            go_wp2
            go_ret
            exact ⟨ret_bool HF.out, Below.refl _ _⟩
          · by_cases hg : 126 < (s[k].toNat : Int)
            · have HF : Hid (false = tarB s) := tarB_in (by omega) (by omega) (allB_not hlt (tarN_no (by omega)))
              go_wp2
              go_ret
              exact ⟨ret_bool HF.out, Below.refl _ _⟩
            · have HV : Hid (allB tarN (s.data.toList.take (k + 1)) = true) := allB_step hlt ha.out (tarN_yes (by omega))
              go_wp2
              go_round
              case rel => exact ⟨k + 1, by omega, by go_num, HV⟩
              case measure => simp [intOf]; omega
        · have HT : Hid (true = tarB s) := tarB_in (by omega) (by omega) (allB_end hlt ha.out)
          go_wp2
          go_ret
          exact ⟨ret_bool HT.out, Below.refl _ _⟩

/-- What a walk is told of fields that came in. -/
def Solid (v : Value) : Prop := ∀ n c, v = .slice none n c → c = 0
def Fits (w : World) (v : Value) (l : List Fl) : Prop := Fls w v l ∧ szL l ≤ 1048576 ∧ l.length ≤ 1048576 ∧ Solid v
theorem Fits.kept {w w' : World} {v : Value} {l : List Fl} (h : Fits w v l) (hb : Below w.heap.size w w') : Fits w' v l := ⟨h.1.kept hb, h.2⟩
theorem past6 {w w1 w2 : World} (h : Below w.heap.size w w1) (hb : Below w1.heap.size w1 w2) : Below w.heap.size w w2 := h.trans (hb.mono h.size)

theorem specOwn (v : Value) (l : List Fl) (w : World) (h : Fits w v l) :
    Calls Tryz.prog 44 #[v] w fun e w' => e = .returned (.bool (ownB l)) ∧ Below w.heap.size w w' := by
  have hg1 := specGetN v l clS w h.1 h.2.1 h.2.2.1 (by decide)
  have hz := h.2.1
  have hl := h.2.2.1
  unfold getE at hg1
  obtain ⟨a, cap, rfl, hcap⟩ := h.1
  have HF : Hid (Fits w (.slice a l.length cap) l) := h
  clear h hcap
  have ho : Hid (ownB l = (fldsOk l && (!(getF l clS).2 && !(getF l teS).2))) := rfl
  obtain ⟨x, p, hx⟩ : ∃ x p, getF l clS = (x, p) := ⟨_, _, rfl⟩
  obtain ⟨y, q, hy⟩ : ∃ y q, getF l teS = (y, q) := ⟨_, _, rfl⟩
  have hg2 : ∀ w, Fits w (.slice a l.length cap) l → Calls Tryz.prog 69 #[.slice a l.length cap, .string teS] w fun e w' => e = .returned (.tuple #[.string y, .bool q]) ∧ Below w.heap.size w w' := fun w h => by
    have := specGetN _ l teS w h.1 h.2.1 h.2.2.1 (by decide)
    unfold getE at this
    rw [hy] at this
    exact this
  rw [hx] at hg1
  have HO : Hid (ownB l = (fldsOk l && (!p && !q))) := by have := ho.out; rw [hx, hy] at this; exact this
  clear hx hy ho
  have hg3 : Hid (∀ w, Fits w (.slice a l.length cap) l → Calls Tryz.prog 69 #[.slice a l.length cap, .string teS] w fun e w' => e = .returned (.tuple #[.string y, .bool q]) ∧ Below w.heap.size w w') := hg2
  clear hg2
  unfold clS at hg1
  unfold teS at hg3
  go_enter Tryz.func44, Tryz.ntmps44
  go_wp2_with fail
  refine hg1.mono ?_
  rintro e w1 ⟨rfl, hb1⟩
  have HF1 : Hid (Fits w1 (.slice a l.length cap) l) := HF.out.kept hb1
  clear hg1
  go_wp2_with fail
  refine (hg3.out _ HF1.out).mono ?_
  rintro e w2 ⟨rfl, hb2'⟩
  have hb2 := past6 hb1 hb2'
  have HF2 : Hid (Fits w2 (.slice a l.length cap) l) := HF1.out.kept hb2'
  clear hb1 hb2' hg3
  go_wp2_with fail
  refine (specOk _ l _ HF2.out.1 hz).mono ?_
  rintro e w3 ⟨rfl, hb3'⟩
  have hb3 := past6 hb2 hb3'
  clear hb3' hb2
  cases ok : fldsOk l with
  | false =>
    rw [ok] at HO
    have H0 : Hid (false = ownB l) := by rw [HO.out]; rfl
    clear HO
    go_wp2
    go_ret
    exact ⟨ret_bool H0.out, hb3⟩
  | true =>
    rw [ok] at HO
    cases p with
    | true =>
      have H0 : Hid (false = ownB l) := by rw [HO.out]; rfl
      clear HO
      go_wp2
      go_ret
      exact ⟨ret_bool H0.out, hb3⟩
    | false =>
      cases q with
      | true =>
        have H0 : Hid (false = ownB l) := by rw [HO.out]; rfl
        clear HO
        go_wp2
        go_ret
        exact ⟨ret_bool H0.out, hb3⟩
      | false =>
        have H0 : Hid (true = ownB l) := by rw [HO.out]; rfl
        clear HO
        go_wp2
        go_ret
        exact ⟨ret_bool H0.out, hb3⟩
theorem specBare (s : Int) (w : World) :
    Calls Tryz.prog 76 #[.int .i64 s] w fun e w' => e = .returned (.bool (bareB s)) ∧ w = w' := by
  by_cases h1 : s = 204
  · subst h1
    have H0 : Hid (true = bareB 204) := rfl
    go_enter Tryz.func76, Tryz.ntmps76
    go_wp2
    go_ret
    exact ⟨ret_bool H0.out, rfl⟩
  · have d1 : (s == 204) = false := by simp [h1]
    by_cases h2 : s = 304
    · subst h2
      have H0 : Hid (true = bareB 304) := rfl
      go_enter Tryz.func76, Tryz.ntmps76
      go_wp2
      go_ret
      exact ⟨ret_bool H0.out, rfl⟩
    · have d2 : (s == 304) = false := by simp [h2]
      have H0 : Hid (false = bareB s) := by show false = bareB s; unfold bareB; simp [h1, h2]
      go_enter Tryz.func76, Tryz.ntmps76
      go_wp2
      go_ret
      exact ⟨ret_bool H0.out, rfl⟩
end Go.Proofs.YtmgmphkncgochaaGreatDoor
namespace Go.Proofs.YtmgmphkncgochaaGreatDoor
open Go.RowKit
set_option linter.unusedVariables false

def rqV (r : Rq) (v : Value) : Value := .agg #[.string r.m, .string r.t, v, .string r.b]
def rsV (r : Rs) (v : Value) : Value := .agg #[.int .i64 r.s, v, .string r.b]
/-- The cells of a request in block b. -/
structure RqB (w : World) (b : Nat) (r : Rq) (v : Value) : Prop where
  c0 : w.cell? ⟨b, 0, none⟩ = some (.string r.m)
  c1 : w.cell? ⟨b, 1, none⟩ = some (.string r.t)
  c2 : w.cell? ⟨b, 2, none⟩ = some v
  c3 : w.cell? ⟨b, 3, none⟩ = some (.string r.b)
  fz : ∀ k, w.frozen? ⟨b, k, none⟩ = false
  hi : b < w.heap.size
structure RsB (w : World) (b : Nat) (r : Rs) (v : Value) : Prop where
  c0 : w.cell? ⟨b, 0, none⟩ = some (.int .i64 r.s)
  c1 : w.cell? ⟨b, 1, none⟩ = some v
  c2 : w.cell? ⟨b, 2, none⟩ = some (.string r.b)
  fz : ∀ k, w.frozen? ⟨b, k, none⟩ = false
  hi : b < w.heap.size
theorem RqB.new (w : World) (r : Rq) (v : Value) (t : TypeId) : RqB (w.alloc (.cells #[.string r.m, .string r.t, v, .string r.b] t)) w.heap.size r v where
  c0 := World.cell?_alloc_mark _ _ _ _ _
  c1 := World.cell?_alloc_mark _ _ _ _ _
  c2 := World.cell?_alloc_mark _ _ _ _ _
  c3 := World.cell?_alloc_mark _ _ _ _ _
  fz := fun k => by rw [World.frozen?_alloc_mark]; simp
  hi := by simp
theorem RsB.new (w : World) (r : Rs) (v : Value) (t : TypeId) : RsB (w.alloc (.cells #[.int .i64 r.s, v, .string r.b] t)) w.heap.size r v where
  c0 := World.cell?_alloc_mark _ _ _ _ _
  c1 := World.cell?_alloc_mark _ _ _ _ _
  c2 := World.cell?_alloc_mark _ _ _ _ _
  fz := fun k => by rw [World.frozen?_alloc_mark]; simp
  hi := by simp
theorem RqB.next {w w' : World} {b : Nat} {r : Rq} {v : Value} (h : RqB w b r v) (hb : Below w.heap.size w w') : RqB w' b r v := by
  have e : w'.heap[b]? = w.heap[b]? := hb.block b h.hi
  have k : ∀ k, w'.cell? ⟨b, k, none⟩ = w.cell? ⟨b, k, none⟩ := fun k => World.cell?_of_block (a := ⟨b, k, none⟩) e
  exact ⟨(k 0).trans h.c0, (k 1).trans h.c1, (k 2).trans h.c2, (k 3).trans h.c3, fun j => (World.frozen?_of_block (a := ⟨b, j, none⟩) e).trans (h.fz j), Nat.lt_of_lt_of_le h.hi hb.size⟩
theorem RsB.next {w w' : World} {b : Nat} {r : Rs} {v : Value} (h : RsB w b r v) (hb : Below w.heap.size w w') : RsB w' b r v := by
  have e : w'.heap[b]? = w.heap[b]? := hb.block b h.hi
  have k : ∀ k, w'.cell? ⟨b, k, none⟩ = w.cell? ⟨b, k, none⟩ := fun k => World.cell?_of_block (a := ⟨b, k, none⟩) e
  exact ⟨(k 0).trans h.c0, (k 1).trans h.c1, (k 2).trans h.c2, fun j => (World.frozen?_of_block (a := ⟨b, j, none⟩) e).trans (h.fz j), Nat.lt_of_lt_of_le h.hi hb.size⟩
theorem RqB.alloc {w : World} {b : Nat} {r : Rq} {v : Value} (h : RqB w b r v) (o : Obj) : RqB (w.alloc o) b r v := h.next ((Below.refl _ w).alloc (Nat.le_refl _) _)
theorem RsB.alloc {w : World} {b : Nat} {r : Rs} {v : Value} (h : RsB w b r v) (o : Obj) : RsB (w.alloc o) b r v := h.next ((Below.refl _ w).alloc (Nat.le_refl _) _)
theorem Fits.alloc {w : World} {v : Value} {l : List Fl} (h : Fits w v l) (o : Obj) : Fits (w.alloc o) v l := h.kept ((Below.refl _ w).alloc (Nat.le_refl _) _)
/-- What a walk is told of a request, of a response that came in. -/
def RqIn (w : World) (v : Value) (r : Rq) : Prop := Fits w v r.l ∧ r.m.size ≤ 1048576 ∧ r.t.size ≤ 1048576 ∧ r.b.size ≤ 1048576
def RsIn (w : World) (v : Value) (r : Rs) : Prop := Fits w v r.l ∧ r.b.size ≤ 1048576
theorem RqIn.kept {w w' : World} {v : Value} {r : Rq} (h : RqIn w v r) (hb : Below w.heap.size w w') : RqIn w' v r := ⟨h.1.kept hb, h.2⟩
theorem RsIn.kept {w w' : World} {v : Value} {r : Rs} (h : RsIn w v r) (hb : Below w.heap.size w w') : RsIn w' v r := ⟨h.1.kept hb, h.2⟩
theorem pastA6 {w w1 w2 : World} {o : Obj} (h : Below w.heap.size w w1) (hb : Below (w1.alloc o).heap.size (w1.alloc o) w2) : Below w.heap.size w w2 := past6 (h.alloc h.size o) hb
theorem le_max {n : Nat} (h : n ≤ 1048576) : n ≤ maxLen := by unfold maxLen; omega

theorem rqOk_no1 {r : Rq} (h : metB r.m = false) : false = rqOk r := by unfold rqOk; rw [h]; rfl
theorem rqOk_no2 {r : Rq} (h : metB r.m = true) (h2 : tarB r.t = false) : false = rqOk r := by unfold rqOk; rw [h, h2]; rfl
theorem rqOk_no3 {r : Rq} (h : metB r.m = true) (h2 : tarB r.t = true) (h3 : ownB r.l = false) : false = rqOk r := by unfold rqOk; rw [h, h2, h3]; rfl
theorem rqOk_is {r : Rq} (h : metB r.m = true) (h2 : tarB r.t = true) (h3 : ownB r.l = true) : decide ((r.b.size : Int) ≤ 4000) = rqOk r := by
  unfold rqOk; rw [h, h2, h3]
  by_cases hb : r.b.size ≤ 4000
  · rw [decide_eq_true hb, decide_eq_true (by omega)]; rfl
  · rw [decide_eq_false hb, decide_eq_false (by omega)]; rfl
set_option maxHeartbeats 1000000 in
theorem specRqOk (r : Rq) (v : Value) (w : World) (h : RqIn w v r) :
    Calls Tryz.prog 12 #[rqV r v] w fun e w' => e = .returned (.bool (rqOk r)) ∧ Below w.heap.size w w' := by
  obtain ⟨hf, z1, z2, z3⟩ := h
  have hfs := hf.1
  obtain ⟨a, cap, rfl, hcap⟩ := hfs
  clear hcap
  unfold rqV
  have HF : Hid (Fits w (.slice a r.l.length cap) r.l) := hf
  clear hf
  have hq1 : r.b.size ≤ 9223372036854775807 := by omega
  go_enter Tryz.func12, Tryz.ntmps12
  go_wp2_with fail
  refine (specMet r.m _ (le_max z1)).mono ?_
  rintro e w1 ⟨rfl, hb1⟩
  have Q1 : Hid (RqB w1 w.heap.size r (.slice a r.l.length cap)) := (RqB.new w r _ _).next hb1
  have B1 : Hid (Below w.heap.size w w1) := pastA6 (Below.refl _ w) hb1
  have F1 : Hid (Fits w1 (.slice a r.l.length cap) r.l) := (HF.out.alloc _).kept hb1
  clear HF hb1
  have a1 := Q1.out.c1
  cases hm : metB r.m with
  | false =>
    have H0 : Hid (false = rqOk r) := rqOk_no1 hm
    go_wp2
    go_ret
    exact ⟨ret_bool H0.out, B1.out⟩
  | true =>
    go_wp2_with fail
    refine (specTar r.t _ (le_max z2)).mono ?_
    rintro e w2 ⟨rfl, hb2⟩
    have Q2 : Hid (RqB w2 w.heap.size r (.slice a r.l.length cap)) := Q1.out.next hb2
    have B2 : Hid (Below w.heap.size w w2) := past6 B1.out hb2
    have F2 : Hid (Fits w2 (.slice a r.l.length cap) r.l) := F1.out.kept hb2
    clear Q1 B1 F1 hb2 a1
    have a2 := Q2.out.c2
    cases ht : tarB r.t with
    | false =>
      have H0 : Hid (false = rqOk r) := rqOk_no2 hm ht
      go_wp2
      go_ret
      exact ⟨ret_bool H0.out, B2.out⟩
    | true =>
      go_wp2_with fail
      refine (specOwn _ r.l _ F2.out).mono ?_
      rintro e w3 ⟨rfl, hb3⟩
      have Q3 : Hid (RqB w3 w.heap.size r (.slice a r.l.length cap)) := Q2.out.next hb3
      have B3 : Hid (Below w.heap.size w w3) := past6 B2.out hb3
      clear Q2 B2 F2 hb3 a2
      have a3 := Q3.out.c3
      cases ho : ownB r.l with
      | false =>
        have H0 : Hid (false = rqOk r) := rqOk_no3 hm ht ho
        go_wp2
        go_ret
        exact ⟨ret_bool H0.out, B3.out⟩
      | true =>
        have H0 : Hid (decide ((r.b.size : Int) ≤ 4000) = rqOk r) := rqOk_is hm ht ho
        go_wp2
        go_ret
        exact ⟨ret_bool H0.out, B3.out⟩

theorem specIn6 (x lo hi : Int) (w : World) :
    Calls Tryz.prog 78 #[.int .i64 x, .int .i64 lo, .int .i64 hi] w fun e w' => e = .returned (.bool (decide (lo ≤ x ∧ x ≤ hi))) ∧ w = w' := by
  obtain ⟨b, hb⟩ : ∃ b, decide (lo ≤ x ∧ x ≤ hi) = b := ⟨_, rfl⟩
  rw [hb]
  by_cases h1 : lo ≤ x
  · have H0 : Hid (decide (x ≤ hi) = b) := by show decide (x ≤ hi) = b; rw [← hb]; simp [h1]
    have d1 : decide (lo ≤ x) = true := by simpa using h1
    clear hb
    go_enter Tryz.func78, Tryz.ntmps78
    go_wp2
    go_ret
    exact ⟨ret_bool H0.out, rfl⟩
  · have H0 : Hid (false = b) := by show false = b; rw [← hb]; simp [h1]
    have d1 : decide (lo ≤ x) = false := by simpa using h1
    clear hb
    go_enter Tryz.func78, Tryz.ntmps78
    go_wp2
    go_ret
    exact ⟨ret_bool H0.out, rfl⟩
theorem rsOk_no1 {r : Rs} (h : decide (200 ≤ r.s ∧ r.s ≤ 599) = false) : false = rsOk r := by unfold rsOk; rw [h]; rfl
theorem rsOk_no2 {r : Rs} (h : decide (200 ≤ r.s ∧ r.s ≤ 599) = true) (h2 : ownB r.l = false) : false = rsOk r := by unfold rsOk; rw [h, h2]; rfl
theorem rsOk_no3 {r : Rs} (h : decide (200 ≤ r.s ∧ r.s ≤ 599) = true) (h2 : ownB r.l = true) (h3 : ¬ r.b.size ≤ 4000) : false = rsOk r := by unfold rsOk; rw [h, h2, decide_eq_false h3]; rfl
theorem rsOk_yes {r : Rs} (h : decide (200 ≤ r.s ∧ r.s ≤ 599) = true) (h2 : ownB r.l = true) (h3 : r.b.size ≤ 4000) (h4 : bareB r.s = false) : true = rsOk r := by unfold rsOk; rw [h, h2, decide_eq_true h3, h4]; rfl
theorem rsOk_is {r : Rs} (h : decide (200 ≤ r.s ∧ r.s ≤ 599) = true) (h2 : ownB r.l = true) (h3 : r.b.size ≤ 4000) (h4 : bareB r.s = true) : decide (r.b.size = 0) = rsOk r := by unfold rsOk; rw [h, h2, decide_eq_true h3, h4]; rfl
theorem void_emp (b : ByteArray) : b.toList.isEmpty = decide (b.size = 0) := by
  rw [ByteArray.toList_eq]
  by_cases h : b.size = 0
  · rw [decide_eq_true h, void_list h]; rfl
  · rw [decide_eq_false h, List.isEmpty_eq_false_iff]
    intro e
    apply h
    have : b.data.toList.length = b.size := by simp
    rw [e] at this
    simpa using this.symm
theorem ch_list : chS.toList = [99, 104, 117, 110, 107, 101, 100] := by rw [ByteArray.toList_eq]; rfl
theorem same_ch {y : ByteArray} {b : Bool} (h : (y.toList == chS.toList) = b) : (y.toList == [99, 104, 117, 110, 107, 101, 100]) = b := by rw [ch_list] at h; exact h
set_option maxHeartbeats 1000000 in
theorem specRsOk (r : Rs) (v : Value) (w : World) (h : RsIn w v r) :
    Calls Tryz.prog 25 #[rsV r v] w fun e w' => e = .returned (.bool (rsOk r)) ∧ Below w.heap.size w w' := by
  obtain ⟨hf, z3⟩ := h
  have hfs := hf.1
  obtain ⟨a, cap, rfl, hcap⟩ := hfs
  clear hcap
  unfold rsV
  have F0 : Hid (Fits (w.alloc (.cells #[.int .i64 r.s, .slice a r.l.length cap, .string r.b] 39)) (.slice a r.l.length cap) r.l) := hf.alloc _
  have Q0 : Hid (RsB (w.alloc (.cells #[.int .i64 r.s, .slice a r.l.length cap, .string r.b] 39)) w.heap.size r (.slice a r.l.length cap)) := RsB.new w r _ _
  have B0 : Hid (Below w.heap.size w (w.alloc (.cells #[.int .i64 r.s, .slice a r.l.length cap, .string r.b] 39))) := (Below.refl _ w).alloc (Nat.le_refl _) _
  clear hf
  have hq1 : r.b.size ≤ 9223372036854775807 := by omega
  go_enter Tryz.func25, Tryz.ntmps25
  go_wp2_with fail
  refine (specIn6 _ _ _ _).mono ?_
  rintro e w1 ⟨rfl, rfl⟩
  cases h1 : decide (200 ≤ r.s ∧ r.s ≤ 599) with
  | false =>
    have H0 : Hid (false = rsOk r) := rsOk_no1 h1
    go_wp2
    go_ret
    exact ⟨ret_bool H0.out, B0.out⟩
  | true =>
    go_wp2_with fail
    refine (specOwn _ r.l _ F0.out).mono ?_
    rintro e w2 ⟨rfl, hb2⟩
    have Q2 : Hid (RsB w2 w.heap.size r (.slice a r.l.length cap)) := Q0.out.next hb2
    have B2 : Hid (Below w.heap.size w w2) := past6 B0.out hb2
    clear Q0 B0 F0 hb2
    have a0 := Q2.out.c0
    have a2 := Q2.out.c2
    cases h2 : ownB r.l with
    | false =>
      have H0 : Hid (false = rsOk r) := rsOk_no2 h1 h2
      go_wp2
      go_ret
      exact ⟨ret_bool H0.out, B2.out⟩
    | true =>
      by_cases h3 : r.b.size ≤ 4000
      · have d3 : decide ((r.b.size : Int) ≤ 4000) = true := by simp; omega
        go_wp2_with fail
        refine (specBare _ _).mono ?_
        rintro e w3 ⟨rfl, rfl⟩
        cases h4 : bareB r.s with
        | false =>
          have H0 : Hid (true = rsOk r) := rsOk_yes h1 h2 h3 h4
          go_wp2
          go_ret
          exact ⟨ret_bool H0.out, B2.out⟩
        | true =>
          have H0 : Hid (r.b.toList.isEmpty = rsOk r) := (void_emp r.b).trans (rsOk_is h1 h2 h3 h4)
          go_wp2
          go_ret
          exact ⟨ret_bool H0.out, B2.out⟩
      · have d3 : decide ((r.b.size : Int) ≤ 4000) = false := by simp; omega
        have H0 : Hid (false = rsOk r) := rsOk_no3 h1 h2 h3
        go_wp2
        go_ret
        exact ⟨ret_bool H0.out, B2.out⟩

def frmE (p : Int × Int) : Value := .tuple #[.int .i64 p.1, .int .i64 p.2]
theorem ret_frm {p : Int × Int} {x y : Int} (h : (x, y) = p) : Ending.returned (.tuple #[.int .i64 x, .int .i64 y]) = .returned (frmE p) := by subst h; rfl
theorem frm_bad {l : List Fl} (h : fldsOk l = false) : (3, 0) = frm l := by unfold frm; rw [if_neg (by rw [h]; decide)]
theorem frm_neither {l : List Fl} (h : fldsOk l = true) (h1 : (getF l clS).2 = false) (h2 : (getF l teS).2 = false) : (0, 0) = frm l := by unfold frm; rw [if_pos h, h1, h2]; rfl
theorem frm_both {l : List Fl} (h : fldsOk l = true) (h1 : (getF l clS).2 = true) (h2 : (getF l teS).2 = true) : (3, 0) = frm l := by unfold frm; rw [if_pos h, h1, h2]; rfl
theorem frm_len {l : List Fl} (h : fldsOk l = true) (h1 : (getF l clS).2 = true) (h2 : (getF l teS).2 = false) (h3 : numOk 10 15 (getF l clS).1 = true ∧ numV 10 15 (getF l clS).1 ≤ 4000) : (1, numV 10 15 (getF l clS).1) = frm l := by unfold frm; rw [if_pos h, if_pos h1, if_neg (by rw [h2]; decide), if_pos h3]
theorem frm_nolen {l : List Fl} (h : fldsOk l = true) (h1 : (getF l clS).2 = true) (h2 : (getF l teS).2 = false) (h3 : ¬ (numOk 10 15 (getF l clS).1 = true ∧ numV 10 15 (getF l clS).1 ≤ 4000)) : (3, 0) = frm l := by unfold frm; rw [if_pos h, if_pos h1, if_neg (by rw [h2]; decide), if_neg h3]
theorem frm_ch {l : List Fl} (h : fldsOk l = true) (h1 : (getF l clS).2 = false) (h2 : (getF l teS).2 = true) (h3 : lowS (getF l teS).1 = chS) : (2, 0) = frm l := by unfold frm; rw [if_pos h, if_neg (by rw [h1]; decide), if_pos h2, if_pos h3]
theorem frm_noch {l : List Fl} (h : fldsOk l = true) (h1 : (getF l clS).2 = false) (h2 : (getF l teS).2 = true) (h3 : ¬ lowS (getF l teS).1 = chS) : (3, 0) = frm l := by unfold frm; rw [if_pos h, if_neg (by rw [h1]; decide), if_pos h2, if_neg h3]
theorem getF_fits {l : List Fl} (n : ByteArray) (h : fldsOk l = true) : (getF l n).1.size ≤ 12060 := by
  have := getA_size l n
  rw [← getA_yes n h] at this
  exact this
set_option maxHeartbeats 1000000 in
theorem specFrm (v : Value) (l : List Fl) (w : World) (h : Fits w v l) :
    Calls Tryz.prog 20 #[v] w fun e w' => e = .returned (frmE (frm l)) ∧ Below w.heap.size w w' := by
  have hz := h.2.1
  obtain ⟨a, cap, rfl, hcap⟩ := h.1
  have HF : Hid (Fits w (.slice a l.length cap) l) := h
  clear h hcap
  cases hok : fldsOk l with
  | false =>
    have H0 : Hid ((3, 0) = frm l) := frm_bad hok
    go_enter Tryz.func20, Tryz.ntmps20
    go_wp2_with (go_at_call 68; refine (specOk _ l _ HF.out.1 hz).mono ?_; rw [hok]; rintro e w1 ⟨rfl, hb1⟩)
    go_ret2
    exact ⟨ret_frm H0.out, hb1⟩
  | true =>
    have F0 := @frm_neither l hok
    have F1 := @frm_both l hok
    have F2 := @frm_len l hok
    have F3 := @frm_nolen l hok
    have F4 := @frm_ch l hok
    have F5 := @frm_noch l hok
    have zx := getF_fits clS hok
    have zy := getF_fits teS hok
    have hg1 : Hid (∀ w, Fits w (.slice a l.length cap) l → Calls Tryz.prog 69 #[.slice a l.length cap, .string clS] w fun e w' => e = .returned (.tuple #[.string (getF l clS).1, .bool (getF l clS).2]) ∧ Below w.heap.size w w') := fun w h => specGetN _ l clS w h.1 h.2.1 h.2.2.1 (by decide)
    have hg2 : Hid (∀ w, Fits w (.slice a l.length cap) l → Calls Tryz.prog 69 #[.slice a l.length cap, .string teS] w fun e w' => e = .returned (.tuple #[.string (getF l teS).1, .bool (getF l teS).2]) ∧ Below w.heap.size w w') := fun w h => specGetN _ l teS w h.1 h.2.1 h.2.2.1 (by decide)
    generalize frm l = fr at F0 F1 F2 F3 F4 F5 ⊢
    generalize getF l clS = gx at F0 F1 F2 F3 F4 F5 zx hg1
    generalize getF l teS = gy at F0 F1 F2 F3 F4 F5 zy hg2
    obtain ⟨x, p⟩ := gx
    obtain ⟨y, q⟩ := gy
    simp only at F0 F1 F2 F3 F4 F5 zx zy hg1 hg2
    have G0 : Hid _ := F0
    have G1 : Hid _ := F1
    have G2 : Hid _ := F2
    have G3 : Hid _ := F3
    have G4 : Hid _ := F4
    have G5 : Hid _ := F5
    clear F0 F1 F2 F3 F4 F5
    unfold clS at hg1
    unfold teS at hg2
    go_enter Tryz.func20, Tryz.ntmps20
    go_wp2_with fail
    refine (specOk _ l _ HF.out.1 hz).mono ?_
    rw [hok]
    rintro e w1 ⟨rfl, hb1⟩
    have HF1 : Hid (Fits w1 (.slice a l.length cap) l) := HF.out.kept hb1
    clear HF
    go_wp2_with fail
    refine (hg1.out _ HF1.out).mono ?_
    rintro e w2 ⟨rfl, hb2'⟩
    have hb2 := past6 hb1 hb2'
    have HF2 : Hid (Fits w2 (.slice a l.length cap) l) := HF1.out.kept hb2'
    clear hb1 hb2' hg1 HF1
    go_wp2_with fail
    refine (hg2.out _ HF2.out).mono ?_
    rintro e w3 ⟨rfl, hb3'⟩
    have hb3 := past6 hb2 hb3'
    clear hb2 hb3' hg2 HF2
    go_wp2_with fail
    refine (specDig x _ (le_max (by omega))).mono ?_
    unfold numE
    rintro e w4 ⟨rfl, hb4'⟩
    have hb4 : Below w.heap.size w w4 := by first | exact past6 hb3 hb4' | (subst hb4'; exact hb3)
    clear hb3 hb4'
    cases p with
    | false =>
      cases q with
      | false =>
        have H0 : Hid ((0, 0) = fr) := G0.out rfl rfl
        clear G0 G1 G2 G3 G4 G5
        go_wp2
        go_ret2
        exact ⟨ret_frm H0.out, hb4⟩
      | true =>
        by_cases hc : lowS y = chS
        · have H0 : Hid ((2, 0) = fr) := G4.out rfl rfl hc
          have hq := same_ch (same_yes hc)
          clear G0 G1 G2 G3 G4 G5 hc
          go_wp2_with (go_at_call 71; refine (specLow y _ (le_max (by omega))).mono ?_; rintro e w5 ⟨rfl, hb5⟩)
          go_ret2
          exact ⟨ret_frm H0.out, past6 hb4 hb5⟩
        · have H0 : Hid ((3, 0) = fr) := G5.out rfl rfl hc
          have hq := same_ch (same_no hc)
          clear G0 G1 G2 G3 G4 G5 hc
          go_wp2_with (go_at_call 71; refine (specLow y _ (le_max (by omega))).mono ?_; rintro e w5 ⟨rfl, hb5⟩)
          go_ret2
          exact ⟨ret_frm H0.out, past6 hb4 hb5⟩
    | true =>
      cases q with
      | true =>
        have H0 : Hid ((3, 0) = fr) := G1.out rfl rfl
        clear G0 G1 G2 G3 G4 G5
        go_wp2
        go_ret2
        exact ⟨ret_frm H0.out, hb4⟩
      | false =>
        have g2 := G2.out rfl rfl
        have g3 := G3.out rfl rfl
        generalize numV 10 15 x = n at g2 g3 ⊢
        generalize numOk 10 15 x = o at g2 g3 ⊢
        clear G0 G1 G2 G3 G4 G5
        cases o with
        | false =>
          have H0 : Hid ((3, 0) = fr) := g3 (by simp)
          clear g2 g3
          go_wp2
          go_ret2
          exact ⟨ret_frm H0.out, hb4⟩
        | true =>
          by_cases hn : n ≤ 4000
          · have H0 : Hid ((1, n) = fr) := g2 ⟨rfl, hn⟩
            have d1 : decide (n ≤ 4000) = true := by simpa using hn
            clear g2 g3
            go_wp2
            go_ret2
            exact ⟨ret_frm H0.out, hb4⟩
          · have H0 : Hid ((3, 0) = fr) := g3 (by simp [hn])
            have d1 : decide (n ≤ 4000) = false := by simpa using hn
            clear g2 g3
            go_wp2
            go_ret2
            exact ⟨ret_frm H0.out, hb4⟩
end Go.Proofs.YtmgmphkncgochaaGreatDoor
namespace Go.Proofs.YtmgmphkncgochaaGreatDoor
open Go.RowKit

theorem cut_hit {b : UInt8} {l sub : List UInt8} (h : sub.isPrefixOf (b :: l) = true) : Lib.cut (b :: l) sub = ([], (b :: l).drop sub.length, true) := by
  unfold Lib.cut
  rw [Lib.index, if_pos h]
  simp
theorem cut_miss {b : UInt8} {l sub : List UInt8} (h : sub.isPrefixOf (b :: l) = false) : Lib.cut (b :: l) sub = if (Lib.cut l sub).2.2 = true then (b :: (Lib.cut l sub).1, (Lib.cut l sub).2.1, true) else (b :: l, [], false) := by
  have hg := Lib.index_ge l sub
  have hi : Lib.index (b :: l) sub = if Lib.index l sub == -1 then -1 else Lib.index l sub + 1 := by
    rw [Lib.index, if_neg (by rw [h]; decide)]
  unfold Lib.cut
  rw [hi]
  by_cases h1 : Lib.index l sub = -1
  · rw [h1]; simp
  · obtain ⟨n, hn⟩ : ∃ n : Nat, Lib.index l sub = n := ⟨(Lib.index l sub).toNat, by omega⟩
    rw [hn]
    have e1 : ((n : Int) == -1) = false := by simp
    have e2 : ((n : Int) + 1).toNat = n + 1 := by omega
    simp only [e1, Bool.false_eq_true, if_false, if_pos (show (0 : Int) ≤ (n : Int) + 1 by omega), if_pos (show (0 : Int) ≤ (n : Int) by omega), if_true, e2, Int.toNat_natCast, List.take_succ_cons]
    rw [show n + 1 + sub.length = (n + sub.length) + 1 from by omega, List.drop_succ_cons]
theorem cut_ln : ∀ l : List UInt8, Lib.cut l [13, 10] = match lnC l with | none => (l, [], false) | some (x, r) => (x, r, true)
  | [] => rfl
  | [c] => by
    have h : ([13, 10] : List UInt8).isPrefixOf [c] = false := by simp [List.isPrefixOf]
    rw [cut_miss h]; rfl
  | c :: d :: t => by
    by_cases h : c = 13 ∧ d = 10
    · obtain ⟨rfl, rfl⟩ := h
      rw [cut_hit (by simp [List.isPrefixOf])]
      simp [lnC]
    · have hp : ([13, 10] : List UInt8).isPrefixOf (c :: d :: t) = false := by
        simp [List.isPrefixOf]
        intro e1 e2
        exact h ⟨e1.symm, e2.symm⟩
      rw [cut_miss hp, cut_ln (d :: t)]
      conv => rhs; unfold lnC
      rw [if_neg h]
      cases e : lnC (d :: t) with
      | none => simp
      | some p => obtain ⟨x, r⟩ := p; simp
theorem cut_col : ∀ l : List UInt8, Lib.cut l [58] = match colL l with | none => (l, [], false) | some (x, r) => (x, r, true)
  | [] => rfl
  | c :: t => by
    by_cases h : c = 58
    · subst h
      rw [cut_hit (by simp [List.isPrefixOf])]
      simp [colL]
    · have hp : ([58] : List UInt8).isPrefixOf (c :: t) = false := by
        simp [List.isPrefixOf]
        exact fun e => h e.symm
      rw [cut_miss hp, cut_col t]
      conv => rhs; unfold colL
      rw [if_neg h]
      cases e : colL t with
      | none => simp
      | some p => obtain ⟨x, r⟩ := p; simp

/-! ### A line, byte by byte -/
def LnAt (s : ByteArray) (k i : Nat) : Prop := lnS (s.data.toList.drop k) = (lnS (s.data.toList.drop i)).map fun p => (cutL s.data.toList k i ++ p.1, p.2)
theorem LnAt.start (s : ByteArray) (k : Nat) : LnAt s k k := by
  unfold LnAt
  rw [cutL_self]
  cases lnS (s.data.toList.drop k) with
  | none => rfl
  | some p => rfl
theorem LnAt.next {s : ByteArray} {k i : Nat} (h : LnAt s k i) (hi : i < s.size) (hk : k ≤ i) (h13 : s[i] ≠ 13) (h10 : s[i] ≠ 10) : LnAt s k (i + 1) := by
  unfold LnAt at *
  rw [h, drop_at' s i hi, lnS_more h13 h10, Option.map_map]
  congr 1
  funext p
  show (cutL s.data.toList k i ++ (s[i] :: p.1), p.2) = (cutL s.data.toList k (i + 1) ++ p.1, p.2)
  rw [← cutL_next hi hk]
  simp
theorem LnAt.ten {s : ByteArray} {k i : Nat} (h : LnAt s k i) (hi : i < s.size) (h10 : s[i] = 10) : lnS (s.data.toList.drop k) = none := by
  unfold LnAt at h
  rw [h, drop_at' s i hi, lnS_ten h10]; rfl
theorem LnAt.done {s : ByteArray} {k i : Nat} (h : LnAt s k i) (hi : ¬ i < s.size) : lnS (s.data.toList.drop k) = none := by
  unfold LnAt at h
  rw [h, drop_past' s i hi]; rfl
theorem LnAt.lone {s : ByteArray} {k i : Nat} (h : LnAt s k i) (hi : i < s.size) (h13 : s[i] = 13) (h2 : ∀ hj : i + 1 < s.size, s[i + 1] ≠ 10) : lnS (s.data.toList.drop k) = none := by
  unfold LnAt at h
  rw [h, drop_at' s i hi, lnS_lone h13]
  · rfl
  · intro d t e
    by_cases hj : i + 1 < s.size
    · rw [drop_at' s (i + 1) hj] at e
      injection e with e1 e2
      rw [← e1]; exact h2 hj
    · rw [drop_past' s (i + 1) hj] at e; cases e
theorem LnAt.found {s : ByteArray} {k i : Nat} (h : LnAt s k i) (hj : i + 1 < s.size) (h13 : s[i]'(by omega) = 13) (h10 : s[i + 1] = 10) : lnS (s.data.toList.drop k) = some (cutL s.data.toList k i, s.data.toList.drop (i + 2)) := by
  unfold LnAt at h
  rw [h, drop_at' s i (by omega), drop_at' s (i + 1) hj, lnS_end h13 h10]
  simp
theorem byte_is {a b : UInt8} (h : (a.toNat : Int) = (b.toNat : Int)) : a = b := UInt8.toNat_inj.1 (by omega)
/-- What the specification's line answers. -/
def lineE (s : ByteArray) : Option (List UInt8 × List UInt8) → Value
  | none => .tuple #[.string ⟨#[]⟩, .int .i64 0, .bool false]
  | some (x, r) => .tuple #[.string ⟨x.toArray⟩, .int .i64 ((s.size : Int) - (r.length : Int)), .bool true]
theorem lineE_none {s : ByteArray} {o : Option (List UInt8 × List UInt8)} (h : o = none) : Ending.returned (.tuple #[.string ⟨#[]⟩, .int .i64 0, .bool false]) = .returned (lineE s o) := by subst h; rfl
theorem lineE_some {s : ByteArray} {o : Option (List UInt8 × List UInt8)} {k i : Nat} (h : o = some (cutL s.data.toList k i, s.data.toList.drop (i + 2))) (hi : i + 1 < s.size) : Ending.returned (.tuple #[.string (s.extract k i), .int .i64 ((i : Int) + 2), .bool true]) = .returned (lineE s o) := by
  subst h
  have e : (s.data.toList.drop (i + 2)).length = s.size - (i + 2) := by simp
  show _ = Ending.returned (.tuple #[.string ⟨(cutL s.data.toList k i).toArray⟩, .int .i64 ((s.size : Int) - ((s.data.toList.drop (i + 2)).length : Int)), .bool true])
  rw [e, cut_text s k i (by omega)]
  have : ((s.size : Int) - ((s.size - (i + 2) : Nat) : Int)) = (i : Int) + 2 := by omega
  rw [this]
end Go.Proofs.YtmgmphkncgochaaGreatDoor
