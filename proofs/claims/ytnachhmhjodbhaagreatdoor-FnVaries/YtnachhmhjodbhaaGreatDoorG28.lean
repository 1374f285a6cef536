/-
  A region that draws its order, whose operations only read but for a few at its end that wait for all the others, walked once: what is read first, in the text's order, then the end.
  The specification's ControlOk and Tighter by their contracts; the laws' own helpers on control.
  The specification's policy by its contracts: keys, moments, what is a right object.
  The specification's Matches by its contract.
-/
import Derived.Test.YtnachhmhjodbhaaGreatDoorRows
import Derived.StillTail
import Derived.Deep.QuietTactic
import Derived.Lib.QuietBelow
import Derived.BigQuiet
import Derived.Test.YtnachhmhjodbhaaGreatDoorG27
import Derived.Test.YtnachhmhjodbhaaGreatDoorG25
import Derived.Test.YtnachhmhjodbhaaGreatDoorG21
import Derived.Test.YtnachhmhjodbhaaGreatDoorG24
namespace Go.Proofs.YtnachhmhjodbhaaGreatDoor
open Go Go.RowKit Go.Sort
set_option linter.unusedVariables false

section
variable {P : Program} {ops : Array Oper} {md : Region.Mode} {C : World → Prop}
/-- So many operations ahead of number n are still to come, whichever comes next; then L. -/
def Ahead (P : Program) (md : Region.Mode) (ops : Array Oper) (C : World → Prop) (n : Nat) (L : Array Bool → Act → Prop) : Nat → Array Bool → Act → Prop
  | 0, listed, a => L listed a
  | f + 1, listed, a => ¬ Region.ready md ops listed = [] ∧ ∀ i ∈ Region.ready md ops listed, i < n ∧ qOp P ops C i (fun a' => Ahead P md ops C n L f (listed.setIfInBounds i true) a') a
theorem Ahead.any {n g : Nat} {L : Array Bool → Act → Prop} {Q : Exit → Act → World → Prop} (hL : ∀ listed a w, C w → L listed a → wpAny P md ops Q g listed a w) :
    ∀ (f : Nat) (listed : Array Bool) (a : Act) (w : World), C w → Ahead P md ops C n L f listed a → wpAny P md ops Q (f + g) listed a w := by
  intro f
  induction f with
  | zero => intro listed a w hw h; rw [Nat.zero_add]; exact hL _ _ _ hw h
  | succ f ih =>
    intro listed a w hw h
    rw [show f + 1 + g = (f + g) + 1 by omega]
    exact ⟨fun h0 => absurd h0 h.1, fun i hi => wpOp_of_qOp hw (fun a' w' hw' h' => ih _ a' w' hw' h') (h.2 i hi).2⟩
/-- None of the end may come up while one ahead of it has not. -/
theorem ahead_lt {n i : Nat} {listed : Array Bool} (hs : Region.sinkB md ops n = true) (hc : Region.chainB md ops n = true) (hn : n < ops.size) (inv : HeadInv md ops n listed) (hin : i < n) (hr : i ∈ Region.ready md ops listed) {j : Nat} (hj : j ∈ Region.ready md ops listed) : j < n := by
  rcases Nat.lt_or_ge j n with h | h
  · exact h
  · exact absurd hj (tail_waits hs hc hn inv _ i rfl hin (mem_ready.1 hr).1 j h)
theorem Ahead.first {n i : Nat} {oi : Oper} {v : Value} {L : Array Bool → Act → Prop} (hi : ops[i]? = some oi) (hsel : ∀ (j : Nat) (o : Oper) cs b, ops[j]? = some o → o.op ≠ .select cs b)
    (hs : Region.sinkB md ops n = true) (hc : Region.chainB md ops n = true) (hn : n < ops.size) (hin : i < n) (hdone : ∀ listed a, L listed a → ∀ j ∈ Region.ready md ops listed, n ≤ j) :
    ∀ (f : Nat) (listed : Array Bool) (a : Act), HeadInv md ops n listed →
      (∀ j oj, ops[j]? = some oj → j ≠ i → listed.getD j true = false → (∀ e ∈ oj.after, Region.binds md e = true → e.on ≠ i) → oi.apart ops oj = true) →
      i ∈ Region.ready md ops listed → YieldsIn P ops C oi v a → Ahead P md ops C n L f (listed.setIfInBounds i true) (a.put oi.dst v) → Ahead P md ops C n L (f + 1) listed a := by
  intro f
  induction f with
  | zero =>
    intro listed a inv _ hr hy H
    refine ⟨fun h => (by rw [h] at hr; cases hr), fun j hj => ⟨ahead_lt hs hc hn inv hin hr hj, ?_⟩⟩
    by_cases hji : j = i
    · subst hji; exact hy.qOp hi H
    · have h1 := hdone _ _ H j (ready_mono hj hji)
      have h2 := ahead_lt hs hc hn inv hin hr hj
      omega
  | succ f ih =>
    intro listed a inv hfree hr hy H
    have hun := (mem_ready.1 hr).1
    refine ⟨fun h => (by rw [h] at hr; cases hr), fun j hj => ⟨ahead_lt hs hc hn inv hin hr hj, ?_⟩⟩
    by_cases hji : j = i
    · subst hji; exact hy.qOp hi H
    · have h1 := (H.2 j (ready_mono hj hji)).2
      obtain ⟨hjun, oj, hoj, hall⟩ := mem_ready.1 hj
      have hnot : ∀ e ∈ oj.after, Region.binds md e = true → e.on ≠ i := fun e he hb heq => by
        have h3 := hall e he hb
        rw [heq, getD_both hun] at h3
        cases h3
      have h2 := qOp_put hoj (hfree j oj hoj hji hjun hnot) (fun cs b => hsel i oi cs b hi) (fun cs b => hsel j oj cs b hoj) hy h1
      refine qOp_mono (fun a' h3 => ih (listed.setIfInBounds j true) a' (inv.set hj (ahead_lt hs hc hn inv hin hr hj)) (fun k ok hk hki hku hno => ?_) (ready_mono hr (Ne.symm hji)) h3.1 ?_) h2
      · refine hfree k ok hk hki ?_ hno
        by_cases hjk : j = k
        · subst hjk; exact hjun
        · rw [getD_set_ne true hjk] at hku; exact hku
      · rw [Array.setIfInBounds_comm _ _ hji]
        exact h3.2
end
end Go.Proofs.YtnachhmhjodbhaaGreatDoor
namespace Go.Proofs.YtnachhmhjodbhaaGreatDoor
open Go.RowKit Go.Sort
set_option linter.unusedVariables false

def ctE : Enc Ct where
  k := 7
  pos := by decide
  c := fun x => [.int .i64 x.a, .int .i64 x.s, .int .i64 x.t, .bool x.ns, .bool x.nc, .bool x.pr, .bool x.mu]
  len := fun _ => rfl
  one := fun x u hu => by simp at hu; rcases hu with rfl | rfl | rfl | rfl | rfl | rfl | rfl <;> rfl
abbrev CtB := BlkE ctE
theorem CtB.born (w : World) (x : Ct) (t : TypeId) : CtB (w.alloc (.cells #[.int .i64 x.a, .int .i64 x.s, .int .i64 x.t, .bool x.ns, .bool x.nc, .bool x.pr, .bool x.mu] t)) w.heap.size x := BlkE.new w x _ t rfl
theorem CtB.all {w : World} {b : Nat} {x : Ct} (h : CtB w b x) : w.cell? ⟨b, 0, Option.none⟩ = some (.int .i64 x.a) ∧ w.cell? ⟨b, 1, Option.none⟩ = some (.int .i64 x.s) ∧ w.cell? ⟨b, 2, Option.none⟩ = some (.int .i64 x.t) ∧ w.cell? ⟨b, 3, Option.none⟩ = some (.bool x.ns) ∧ w.cell? ⟨b, 4, Option.none⟩ = some (.bool x.nc) ∧ w.cell? ⟨b, 5, Option.none⟩ = some (.bool x.pr) ∧ w.cell? ⟨b, 6, Option.none⟩ = some (.bool x.mu) :=
  ⟨h.c 0 _ rfl, h.c 1 _ rfl, h.c 2 _ rfl, h.c 3 _ rfl, h.c 4 _ rfl, h.c 5 _ rfl, h.c 6 _ rfl⟩
theorem specIn9 (x lo hi : Int) (w : World) : Calls Tryz.prog 72 #[.int .i64 x, .int .i64 lo, .int .i64 hi] w fun e w' => e = .returned (.bool (decide (lo ≤ x) && decide (x ≤ hi))) ∧ w = w' := by
  by_cases h : lo ≤ x
  · rw [decide_eq_true h]
    by_cases h2 : x ≤ hi
    · rw [decide_eq_true h2]
      go_enter Tryz.func72, Tryz.ntmps72
      go_wp2
      go_ret
      exact ⟨rfl, rfl⟩
    · rw [decide_eq_false h2]
      go_enter Tryz.func72, Tryz.ntmps72
      go_wp2
      go_ret
      exact ⟨rfl, rfl⟩
  · rw [decide_eq_false h]
    go_enter Tryz.func72, Tryz.ntmps72
    go_wp2
    go_ret
    exact ⟨rfl, rfl⟩
end Go.Proofs.YtnachhmhjodbhaaGreatDoor
namespace Go.Proofs.YtnachhmhjodbhaaGreatDoor
open Go.RowKit Go.Sort
set_option linter.unusedVariables false

set_option maxHeartbeats 1000000 in
theorem specKeyO (s : ByteArray) (w : World) (hs : s.size ≤ 1048576) :
    Calls Tryz.prog 69 #[.string s] w fun e w' => e = .returned (.bool (keyO s)) ∧ w = w' := by
  have HK : Hid (keyO s = (allB keyN s.data.toList && decide (s.size ≤ 500))) := rfl
  generalize keyO s = K at HK ⊢
  go_enter Tryz.func69, Tryz.ntmps69
  go_wp2
  go_loop [3] (fun i => ∃ k : Nat, k ≤ s.size ∧ i = .int .i64 k ∧ Hid (allB keyN (s.data.toList.take k) = true)) (fun i => s.size - (intOf i).toNat)
  case atStart => exact ⟨0, Nat.zero_le _, rfl, allB_nil _ _⟩
  case round =>
    obtain ⟨k, hk, rfl, ha⟩ := hrel
    by_cases hlt : k < s.size
    · by_cases hl : (s[k].toNat : Int) < 33
      · have HF : Hid (false = K) := by show _ = _; rw [HK.out, ← allB_not (p := keyN) hlt (keyN_no (by omega))]; rfl
        go_wp2
        go_ret
        exact ⟨ret_bool HF.out, rfl⟩
      · by_cases hg : 126 < (s[k].toNat : Int)
        · have HF : Hid (false = K) := by show _ = _; rw [HK.out, ← allB_not (p := keyN) hlt (keyN_no (by omega))]; rfl
          go_wp2
          go_ret
          exact ⟨ret_bool HF.out, rfl⟩
        · have HV : Hid (allB keyN (s.data.toList.take (k + 1)) = true) := allB_step hlt ha.out (keyN_yes (by omega))
          go_wp2
          go_round
          case rel => exact ⟨k + 1, by omega, by go_num, HV⟩
          case measure => simp [intOf]; omega
    · have HE : Hid (decide ((s.size : Int) ≤ 500) = K) := by
        show _ = _
        have e : s.data.toList.take k = s.data.toList := List.take_of_length_le (by simp; omega)
        have h2 := ha.out
        rw [e] at h2
        rw [HK.out, h2, Bool.true_and]
        by_cases h5 : s.size ≤ 500
        · rw [decide_eq_true h5, decide_eq_true (by omega)]
        · rw [decide_eq_false h5, decide_eq_false (by omega)]
      go_wp2
      go_ret
      exact ⟨ret_bool HE.out, rfl⟩
theorem specMomB (n : Int) (w : World) : Calls Tryz.prog 71 #[.int .i64 n] w fun e w' => e = .returned (.bool (momB n)) ∧ w = w' := by
  have h := fun W => specIn9 n 0 253402300799 W
  change ∀ W, Calls _ _ _ _ fun e w' => e = .returned (.bool (momB n)) ∧ W = w' at h
  generalize momB n = b at h ⊢
  go_enter Tryz.func71, Tryz.ntmps71
  go_wp2_with (go_at_call 72; refine (h _).mono ?_; rintro e w1 ⟨rfl, rfl⟩)
  go_ret
  exact ⟨rfl, rfl⟩
/-- The cells of an object in block b. -/
structure ObB (w : World) (b : Nat) (o : Ob) (v u : Value) : Prop where
  c0 : w.cell? ⟨b, 0, none⟩ = some (.string o.k)
  c1 : w.cell? ⟨b, 1, none⟩ = some v
  c2 : w.cell? ⟨b, 2, none⟩ = some (.int .i64 o.r.s)
  c3 : w.cell? ⟨b, 3, none⟩ = some u
  c4 : w.cell? ⟨b, 4, none⟩ = some (.string o.r.b)
  c5 : w.cell? ⟨b, 5, none⟩ = some (.int .i64 o.asked)
  c6 : w.cell? ⟨b, 6, none⟩ = some (.int .i64 o.got)
  c7 : w.cell? ⟨b, 7, none⟩ = some (.int .i64 o.ep)
  fz : ∀ k, w.frozen? ⟨b, k, none⟩ = false
  hi : b < w.heap.size
theorem ObB.new (w : World) (o : Ob) (v u : Value) (t : TypeId) : ObB (w.alloc (.cells #[.string o.k, v, .int .i64 o.r.s, u, .string o.r.b, .int .i64 o.asked, .int .i64 o.got, .int .i64 o.ep] t)) w.heap.size o v u where
  c0 := World.cell?_alloc_mark _ _ _ _ _
  c1 := World.cell?_alloc_mark _ _ _ _ _
  c2 := World.cell?_alloc_mark _ _ _ _ _
  c3 := World.cell?_alloc_mark _ _ _ _ _
  c4 := World.cell?_alloc_mark _ _ _ _ _
  c5 := World.cell?_alloc_mark _ _ _ _ _
  c6 := World.cell?_alloc_mark _ _ _ _ _
  c7 := World.cell?_alloc_mark _ _ _ _ _
  fz := fun k => by rw [World.frozen?_alloc_mark]; simp
  hi := by simp
theorem ObB.next {w w' : World} {b : Nat} {o : Ob} {v u : Value} (h : ObB w b o v u) (hb : Below w.heap.size w w') : ObB w' b o v u := by
  have e : w'.heap[b]? = w.heap[b]? := hb.block b h.hi
  have k : ∀ k, w'.cell? ⟨b, k, none⟩ = w.cell? ⟨b, k, none⟩ := fun k => World.cell?_of_block (a := ⟨b, k, none⟩) e
  exact ⟨(k 0).trans h.c0, (k 1).trans h.c1, (k 2).trans h.c2, (k 3).trans h.c3, (k 4).trans h.c4, (k 5).trans h.c5, (k 6).trans h.c6, (k 7).trans h.c7, fun j => (World.frozen?_of_block (a := ⟨b, j, none⟩) e).trans (h.fz j), Nat.lt_of_lt_of_le h.hi hb.size⟩
/-- What a walk is told of an object that came in. -/
def ObIn (w : World) (v u : Value) (o : Ob) : Prop := Fits w v o.l ∧ RsIn w u o.r ∧ o.k.size ≤ 1048576
theorem ObIn.kept {w w' : World} {v u : Value} {o : Ob} (h : ObIn w v u o) (hb : Below w.heap.size w w') : ObIn w' v u o := ⟨h.1.kept hb, h.2.1.kept hb, h.2.2⟩
theorem Fits.form {w : World} {v : Value} {l : List Fl} (h : Fits w v l) : ∃ a cap, v = .slice a l.length cap := by
  obtain ⟨a, cap, hv, _⟩ := h.1
  exact ⟨a, cap, hv⟩
set_option maxHeartbeats 4000000 in
theorem specObOk (o : Ob) (v u : Value) (w : World) (h : ObIn w v u o) :
    Calls Tryz.prog 39 #[obV o v u] w fun e w' => e = .returned (.bool (obB o)) ∧ Below w.heap.size w w' := by
  have HB : Hid (obB o = (keyO o.k && (fldsOk o.l && (rsOk o.r && (momB o.asked && (momB o.got && (decide (o.asked ≤ o.got) && (decide (0 ≤ o.ep) && decide (o.ep ≤ 100000))))))))) := rfl
  have j1 := fun W => specKeyO o.k W h.2.2
  have j2 := fun W (hW : Fits W v o.l) => specOk v o.l W hW.1 hW.2.1
  have j3 := fun W hW => specRsOk o.r u W hW
  have j4 := fun W => specMomB o.asked W
  have j5 := fun W => specMomB o.got W
  have j6 := fun W => specIn9 o.ep 0 100000 W
  generalize (decide (0 ≤ o.ep) && decide (o.ep ≤ 100000)) = b6 at HB j6
  generalize obB o = R at HB ⊢
  generalize keyO o.k = b1 at HB j1
  generalize fldsOk o.l = b2 at HB j2
  generalize rsOk o.r = b3 at HB j3
  generalize momB o.asked = b4 at HB j4
  generalize momB o.got = b5 at HB j5
  obtain ⟨va, vc, rfl⟩ := h.1.form
  obtain ⟨ua, uc, rfl⟩ := h.2.1.1.form
  have Q0 : Hid (ObB (w.alloc (.cells #[.string o.k, .slice va o.l.length vc, .int .i64 o.r.s, .slice ua o.r.l.length uc, .string o.r.b, .int .i64 o.asked, .int .i64 o.got, .int .i64 o.ep] 32)) w.heap.size o (.slice va o.l.length vc) (.slice ua o.r.l.length uc)) := ObB.new w o _ _ _
  have B0 : Hid (Below w.heap.size w (w.alloc (.cells #[.string o.k, .slice va o.l.length vc, .int .i64 o.r.s, .slice ua o.r.l.length uc, .string o.r.b, .int .i64 o.asked, .int .i64 o.got, .int .i64 o.ep] 32))) := (Below.refl _ w).alloc (Nat.le_refl _) _
  have I0 : Hid (ObIn (w.alloc (.cells #[.string o.k, .slice va o.l.length vc, .int .i64 o.r.s, .slice ua o.r.l.length uc, .string o.r.b, .int .i64 o.asked, .int .i64 o.got, .int .i64 o.ep] 32)) (.slice va o.l.length vc) (.slice ua o.r.l.length uc) o) := h.kept B0.out
  clear h
  unfold obV
  unfold rsV at j3
  go_enter Tryz.func39, Tryz.ntmps39
  go_wp2_with fail
  refine (j1 _).mono ?_
  rintro e w1 ⟨rfl, rfl⟩
  clear j1
  cases b1 with
  | false =>
    have HR : Hid (false = R) := HB.out.symm
    go_wp2
    go_ret
    exact ⟨ret_bool HR.out, B0.out⟩
  | true =>
    go_wp2_with fail
    refine (j2 _ I0.out.1).mono ?_
    rintro e w2 ⟨rfl, hb2⟩
    have Q2 : Hid (ObB w2 w.heap.size o (.slice va o.l.length vc) (.slice ua o.r.l.length uc)) := Q0.out.next hb2
    have B2 : Hid (Below w.heap.size w w2) := past6 B0.out hb2
    have I2 : Hid (ObIn w2 (.slice va o.l.length vc) (.slice ua o.r.l.length uc) o) := I0.out.kept hb2
    clear hb2 Q0 B0 I0 j2
    cases b2 with
    | false =>
      have HR : Hid (false = R) := HB.out.symm
      go_wp2
      go_ret
      exact ⟨ret_bool HR.out, B2.out⟩
    | true =>
      have d2 := Q2.out.c2
      have d3 := Q2.out.c3
      have d4 := Q2.out.c4
      go_wp2_with fail
      refine (j3 _ I2.out.2.1).mono ?_
      rintro e w3 ⟨rfl, hb3⟩
      have Q3 : Hid (ObB w3 w.heap.size o (.slice va o.l.length vc) (.slice ua o.r.l.length uc)) := Q2.out.next hb3
      have B3 : Hid (Below w.heap.size w w3) := past6 B2.out hb3
      clear hb3 Q2 B2 I2 j3 d2 d3 d4
      have d5 := Q3.out.c5
      have d6 := Q3.out.c6
      have d7 := Q3.out.c7
      cases b3 with
      | false =>
        have HR : Hid (false = R) := HB.out.symm
        go_wp2
        go_ret
        exact ⟨ret_bool HR.out, B3.out⟩
      | true =>
        go_wp2_with fail
        refine (j4 _).mono ?_
        rintro e w4 ⟨rfl, rfl⟩
        clear j4
        cases b4 with
        | false =>
          have HR : Hid (false = R) := HB.out.symm
          go_wp2
          go_ret
          exact ⟨ret_bool HR.out, B3.out⟩
        | true =>
          go_wp2_with fail
          refine (j5 _).mono ?_
          rintro e w5 ⟨rfl, rfl⟩
          clear j5
          cases b5 with
          | false =>
            have HR : Hid (false = R) := HB.out.symm
            go_wp2
            go_ret
            exact ⟨ret_bool HR.out, B3.out⟩
          | true =>
            by_cases hag : o.asked ≤ o.got
            · have da : decide (o.asked ≤ o.got) = true := decide_eq_true hag
              have HR : Hid (b6 = R) := by show _ = _; rw [HB.out, da]; simp
              go_wp2_with (go_at_call 72; refine (j6 _).mono ?_; rintro e w6 ⟨rfl, rfl⟩)
              go_ret
              exact ⟨ret_bool HR.out, B3.out⟩
            · have da : decide (o.asked ≤ o.got) = false := decide_eq_false hag
              have HR : Hid (false = R) := by show _ = _; rw [HB.out, da]; simp
              go_wp2
              go_ret
              exact ⟨ret_bool HR.out, B3.out⟩
end Go.Proofs.YtnachhmhjodbhaaGreatDoor
namespace Go.Proofs.YtnachhmhjodbhaaGreatDoor
open Go.RowKit Go.Sort
set_option linter.unusedVariables false
set_option linter.unusedSimpArgs false

def nVA : ByteArray := ⟨#[118, 97, 114, 121]⟩
/-- What an object is selected by, of some fields. -/
def ofV (o : Ob) (l : List Fl) : ByteArray × Bool := selV (getF o.r.l nVA).1 l
def matV (o : Ob) (key : ByteArray) (l : List Fl) : Bool := obB o && (fldsOk l && (decide (o.k = key) && ((ofV o o.l).2 && ((ofV o l).2 && decide ((ofV o o.l).1 = (ofV o l).1)))))
set_option maxHeartbeats 2000000 in
theorem specOf (o : Ob) (v u : Value) (x : Value) (l : List Fl) (w : World) (h : ObIn w v u o) (hl : Fits w x l) :
    Calls Tryz.prog 40 #[obV o v u, x] w fun e w' => e = .returned (.tuple #[.string (ofV o l).1, .bool (ofV o l).2]) ∧ Below w.heap.size w w' := by
  have hgz := getF_max nVA h.2.1.1.2.1 h.2.1.1.2.2.1
  have hg := fun W (hW : Fits W u o.r.l) => specGetN u o.r.l nVA W hW.1 hW.2.1 hW.2.2.1 (by decide)
  have hs := fun W (hW : Fits W x l) => specSelV (getF o.r.l nVA).1 x l W hW (by unfold maxLen; omega)
  have HV : Hid (ofV o l = selV (getF o.r.l nVA).1 l) := rfl
  generalize ofV o l = R at HV ⊢
  rw [← HV.out] at hs
  unfold getE at hg
  generalize getF o.r.l nVA = g at hg hs HV
  obtain ⟨gt, gf⟩ := g
  obtain ⟨rt, rb⟩ := R
  simp only at hg hs ⊢
  obtain ⟨va, vc, rfl⟩ := h.1.form
  obtain ⟨ua, uc, rfl⟩ := h.2.1.1.form
  obtain ⟨xa, xc, rfl⟩ := hl.form
  have Q0 : Hid (ObB (w.alloc (.cells #[.string o.k, .slice va o.l.length vc, .int .i64 o.r.s, .slice ua o.r.l.length uc, .string o.r.b, .int .i64 o.asked, .int .i64 o.got, .int .i64 o.ep] 32)) w.heap.size o (.slice va o.l.length vc) (.slice ua o.r.l.length uc)) := ObB.new w o _ _ _
  have B0 : Hid (Below w.heap.size w (w.alloc (.cells #[.string o.k, .slice va o.l.length vc, .int .i64 o.r.s, .slice ua o.r.l.length uc, .string o.r.b, .int .i64 o.asked, .int .i64 o.got, .int .i64 o.ep] 32))) := (Below.refl _ w).alloc (Nat.le_refl _) _
  have I0 : Hid (Fits (w.alloc (.cells #[.string o.k, .slice va o.l.length vc, .int .i64 o.r.s, .slice ua o.r.l.length uc, .string o.r.b, .int .i64 o.asked, .int .i64 o.got, .int .i64 o.ep] 32)) (.slice ua o.r.l.length uc) o.r.l) := h.2.1.1.kept B0.out
  have F0 : Hid (Fits w (.slice xa l.length xc) l) := hl
  clear h hl hgz
  unfold obV
  unfold nVA at hg
  obtain ⟨q0, q1, q2, q3, q4, q5, q6, q7, qf, qh⟩ := Q0.out
  go_enter Tryz.func40, Tryz.ntmps40
  go_wp2_with fail
  refine (hg _ I0.out).mono ?_
  rintro e w1 ⟨rfl, hb1⟩
  have B1 : Hid (Below w.heap.size w w1) := past6 B0.out hb1
  clear hb1 hg I0 B0 Q0 q0 q1 q2 q3 q4 q5 q6 q7 qf qh
  go_wp2_with fail
  refine (hs _ (F0.out.kept B1.out)).mono ?_
  rintro e w2 ⟨rfl, hb2⟩
  have B2 : Hid (Below w.heap.size w w2) := past6 B1.out hb2
  clear hb2 hs B1 F0
  go_wp2
  go_ret2
  exact ⟨rfl, B2.out⟩
theorem same10 {a b : ByteArray} (h : a = b) : (a.toList == b.toList) = true := by subst h; simp
set_option maxHeartbeats 4000000 in
theorem specMat (o : Ob) (v u : Value) (key : ByteArray) (x : Value) (l : List Fl) (w : World) (h : ObIn w v u o) (hl : Fits w x l) (hk : key.size ≤ 1048576) :
    Calls Tryz.prog 14 #[obV o v u, .string key, x] w fun e w' => e = .returned (.bool (matV o key l)) ∧ Below w.heap.size w w' := by
  have HM : Hid (matV o key l = (obB o && (fldsOk l && (decide (o.k = key) && ((ofV o o.l).2 && ((ofV o l).2 && decide ((ofV o o.l).1 = (ofV o l).1))))))) := rfl
  have j1 := fun W hW => specObOk o v u W hW
  have j2 := fun W (hW : Fits W x l) => specOk x l W hW.1 hW.2.1
  have j3 := fun W (hW : ObIn W v u o) => specOf o v u v o.l W hW hW.1
  have j4 := fun W (hW : ObIn W v u o) (hX : Fits W x l) => specOf o v u x l W hW hX
  generalize matV o key l = R at HM ⊢
  generalize obB o = b1 at HM j1
  generalize fldsOk l = b2 at HM j2
  generalize ofV o o.l = p1 at HM j3
  generalize ofV o l = p2 at HM j4
  obtain ⟨t1, c1⟩ := p1
  obtain ⟨t2, c2⟩ := p2
  simp only at HM j3 j4
  obtain ⟨va, vc, rfl⟩ := h.1.form
  obtain ⟨ua, uc, rfl⟩ := h.2.1.1.form
  obtain ⟨xa, xc, rfl⟩ := hl.form
  have Q0 : Hid (ObB (w.alloc (.cells #[.string o.k, .slice va o.l.length vc, .int .i64 o.r.s, .slice ua o.r.l.length uc, .string o.r.b, .int .i64 o.asked, .int .i64 o.got, .int .i64 o.ep] 32)) w.heap.size o (.slice va o.l.length vc) (.slice ua o.r.l.length uc)) := ObB.new w o _ _ _
  have B0 : Hid (Below w.heap.size w (w.alloc (.cells #[.string o.k, .slice va o.l.length vc, .int .i64 o.r.s, .slice ua o.r.l.length uc, .string o.r.b, .int .i64 o.asked, .int .i64 o.got, .int .i64 o.ep] 32))) := (Below.refl _ w).alloc (Nat.le_refl _) _
  have HI : Hid (∀ W, Below w.heap.size w W → ObIn W (.slice va o.l.length vc) (.slice ua o.r.l.length uc) o) := fun W hb => h.kept hb
  have HF : Hid (∀ W, Below w.heap.size w W → Fits W (.slice xa l.length xc) l) := fun W hb => hl.kept hb
  clear h hl
  unfold obV at j1 j3 j4 ⊢
  go_enter Tryz.func14, Tryz.ntmps14
  go_wp2_with fail
  refine (j1 _ (HI.out _ B0.out)).mono ?_
  rintro e w1 ⟨rfl, hb1⟩
  have Q1 : Hid (ObB w1 w.heap.size o (.slice va o.l.length vc) (.slice ua o.r.l.length uc)) := Q0.out.next hb1
  have B1 : Hid (Below w.heap.size w w1) := past6 B0.out hb1
  clear hb1 Q0 B0 j1
  cases b1 with
  | false =>
    have HR : Hid (false = R) := HM.out.symm
    go_wp2
    go_ret
    exact ⟨ret_bool HR.out, B1.out⟩
  | true =>
    go_wp2_with fail
    refine (j2 _ (HF.out _ B1.out)).mono ?_
    rintro e w2 ⟨rfl, hb2⟩
    have Q2 : Hid (ObB w2 w.heap.size o (.slice va o.l.length vc) (.slice ua o.r.l.length uc)) := Q1.out.next hb2
    have B2 : Hid (Below w.heap.size w w2) := past6 B1.out hb2
    clear hb2 Q1 B1 j2
    obtain ⟨q0, q1, q2, q3, q4, q5, q6, q7, qf, qh⟩ := Q2.out
    cases b2 with
    | false =>
      have HR : Hid (false = R) := HM.out.symm
      go_wp2
      go_ret
      exact ⟨ret_bool HR.out, B2.out⟩
    | true =>
      by_cases hkk : o.k = key
      · have e1 := same10 hkk
        have HX : Hid (R = (c1 && (c2 && decide (t1 = t2)))) := by show _ = _; rw [HM.out, decide_eq_true hkk]; simp
        clear HM hkk
        go_wp2_with fail
        refine (j3 _ (HI.out _ B2.out)).mono ?_
        rintro e w3 ⟨rfl, hb3⟩
        have Q3 : Hid (ObB w3 w.heap.size o (.slice va o.l.length vc) (.slice ua o.r.l.length uc)) := Q2.out.next hb3
        have B3 : Hid (Below w.heap.size w w3) := past6 B2.out hb3
        clear hb3 Q2 B2 j3 q0 q1 q2 q3 q4 q5 q6 q7 qf qh
        obtain ⟨q0, q1, q2, q3, q4, q5, q6, q7, qf, qh⟩ := Q3.out
        go_wp2_with fail
        refine (j4 _ (HI.out _ B3.out) (HF.out _ B3.out)).mono ?_
        rintro e w4 ⟨rfl, hb4⟩
        have B4 : Hid (Below w.heap.size w w4) := past6 B3.out hb4
        clear hb4 Q3 B3 j4 q0 q1 q2 q3 q4 q5 q6 q7 qf qh e1
        cases c1 with
        | false =>
          have HR : Hid (false = R) := HX.out.symm
          go_wp2
          go_ret
          exact ⟨ret_bool HR.out, B4.out⟩
        | true =>
          cases c2 with
          | false =>
            have HR : Hid (false = R) := HX.out.symm
            go_wp2
            go_ret
            exact ⟨ret_bool HR.out, B4.out⟩
          | true =>
            by_cases htt : t1 = t2
            · have e2 := same10 htt
              have HR : Hid (true = R) := by show _ = _; rw [HX.out, decide_eq_true htt]; rfl
              clear htt
              go_wp2
              go_ret
              exact ⟨ret_bool HR.out, B4.out⟩
            · have e2 := neV htt
              have HR : Hid (false = R) := by show _ = _; rw [HX.out, decide_eq_false htt]; rfl
              clear htt
              go_wp2
              go_ret
              exact ⟨ret_bool HR.out, B4.out⟩
      · have e1 := neV hkk
        have HR : Hid (false = R) := by show _ = _; rw [HM.out, decide_eq_false hkk]; simp
        clear hkk
        go_wp2
        go_ret
        exact ⟨ret_bool HR.out, B2.out⟩
end Go.Proofs.YtnachhmhjodbhaaGreatDoor
