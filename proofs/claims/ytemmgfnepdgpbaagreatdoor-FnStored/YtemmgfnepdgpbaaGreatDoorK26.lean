/-
  Records as plain data: what one is, the one with which a disk begins, and all of them.
  The specification's lines and numbers of a line, by their contracts.
  The specification's numbers of a line and its records, by their contracts.
  What ReadObject answers, and the parts that it is read of.
-/
import Derived.Test.YtemmgfnepdgpbaaGreatDoorK10
import Derived.Test.YtemmgfnepdgpbaaGreatDoorK25
import Derived.Test.YtemmgfnepdgpbaaGreatDoorK11
import Derived.Test.YtemmgfnepdgpbaaGreatDoorK13
import Derived.Test.YtemmgfnepdgpbaaGreatDoorK12
import Derived.Test.YtemmgfnepdgpbaaGreatDoorK24
import Derived.Test.YtemmgfnepdgpbaaGreatDoorK23
namespace Go.Proofs.YtemmgfnepdgpbaaGreatDoor.St
open Go.RowKit Ow
set_option linter.unusedVariables false

def hs (t : List UInt8) : Int := (hshL t : Nat)
def recL (t : List UInt8) : List UInt8 := (dd (t.length : Int) ++ 32 :: dd (hs t)) ++ 10 :: (t ++ [10])
def lastR (d t : List UInt8) : Option (List UInt8) := if recL t <+: d then some t else none
def rdR (d : List UInt8) : Option (List UInt8) :=
  (ln10 d).bind fun p => (numsL 2 p.1).bind fun n => if n.getD 0 0 ≤ 9000 ∧ n.getD 0 0 ≤ (p.2.length : Int) then lastR d (p.2.take (n.getD 0 0).toNat) else none
theorem rdR_ok {d t : List UInt8} (h : rdR d = some t) : t.length ≤ 9000 ∧ recL t <+: d := by
  unfold rdR at h
  simp only [Option.bind_eq_some_iff] at h
  obtain ⟨p, _, n, hn, h⟩ := h
  split at h
  · rename_i hc
    unfold lastR at h
    split at h
    · rename_i hp
      simp only [Option.some.injEq] at h
      subst h
      refine ⟨?_, hp⟩
      rw [List.length_take]
      omega
    · cases h
  · cases h
theorem rec_len (t : List UInt8) : t.length + 3 ≤ (recL t).length := by
  unfold recL
  simp only [List.length_append, List.length_cons, List.length_nil]
  omega
def rcsF : Nat → List UInt8 → List (List UInt8) × Nat
  | 0, _ => ([], 0)
  | f + 1, d => match rdR d with
    | none => ([], 0)
    | some t => (t :: (rcsF f (d.drop (recL t).length)).1, (recL t).length + (rcsF f (d.drop (recL t).length)).2)
def rcsL (d : List UInt8) : List (List UInt8) × Nat := rcsF d.length d
theorem rcsF_same : ∀ (f g : Nat) (d : List UInt8), d.length ≤ f → d.length ≤ g → rcsF f d = rcsF g d
  | 0, 0, d, _, _ => rfl
  | 0, g + 1, d, h, _ => by
    obtain rfl : d = [] := List.eq_nil_of_length_eq_zero (by omega)
    rfl
  | f + 1, 0, d, _, h => by
    obtain rfl : d = [] := List.eq_nil_of_length_eq_zero (by omega)
    rfl
  | f + 1, g + 1, d, h1, h2 => by
    unfold rcsF
    cases e : rdR d with
    | none => rfl
    | some t =>
      have hl := (rdR_ok e).2.length_le
      have h3 := rec_len t
      have := rcsF_same f g (d.drop (recL t).length) (by rw [List.length_drop]; omega) (by rw [List.length_drop]; omega)
      simp only [this]
theorem rcs_none {d : List UInt8} (h : rdR d = none) : rcsL d = ([], 0) := by
  unfold rcsL
  cases hl : d.length with
  | zero => rfl
  | succ n => unfold rcsF; rw [h]
theorem rcs_more {d t : List UInt8} (h : rdR d = some t) : rcsL d = (t :: (rcsL (d.drop (recL t).length)).1, (recL t).length + (rcsL (d.drop (recL t).length)).2) := by
  have hl := (rdR_ok h).2.length_le
  have h3 := rec_len t
  unfold rcsL
  cases e : d.length with
  | zero => omega
  | succ n =>
    have := rcsF_same n (d.drop (recL t).length).length (d.drop (recL t).length) (by rw [List.length_drop]; omega) (Nat.le_refl _)
    rw [← this]
    conv => lhs; unfold rcsF
    rw [h]
/-- How far the records are read: a bytes, the texts out. -/
def RcAt (d : List UInt8) (a : Nat) (out : List (List UInt8)) : Prop := a ≤ d.length ∧ out.length ≤ a ∧ rcsL d = (out ++ (rcsL (d.drop a)).1, a + (rcsL (d.drop a)).2)
theorem RcAt.start (d : List UInt8) : RcAt d 0 [] := ⟨Nat.zero_le _, Nat.le_refl _, by simp⟩
theorem RcAt.next {d : List UInt8} {a : Nat} {out : List (List UInt8)} (h : RcAt d a out) {t : List UInt8} (e : rdR (d.drop a) = some t) : RcAt d (a + (recL t).length) (out ++ [t]) := by
  obtain ⟨h1, h2, h3⟩ := h
  have hl := (rdR_ok e).2.length_le
  have h4 := rec_len t
  rw [List.length_drop] at hl
  refine ⟨by omega, by simp; omega, ?_⟩
  rw [h3, rcs_more e, List.drop_drop]
  simp
  omega
theorem RcAt.done {d : List UInt8} {a : Nat} {out : List (List UInt8)} (h : RcAt d a out) (e : rdR (d.drop a) = none) : rcsL d = (out, a) := by
  rw [h.2.2, rcs_none e]
  simp
end Go.Proofs.YtemmgfnepdgpbaaGreatDoor.St
namespace Go.Proofs.YtemmgfnepdgpbaaGreatDoor
open Go.RowKit St
set_option linter.unusedVariables false
set_option linter.unusedSimpArgs false

def ln10E (s : ByteArray) (r : Option (List UInt8 × List UInt8)) : Value := match r with
  | none => .tuple #[.string ⟨#[]⟩, .int .i64 0, .bool false]
  | some (x, q) => .tuple #[.string (txtL x), .int .i64 ((s.size : Int) - (q.length : Int)), .bool true]
/-- No byte 10 from k up to j. -/
def LnT (s : ByteArray) (k j : Nat) : Prop := (10 : UInt8) ∉ (s.data.toList.drop k).take (j - k)
theorem drop_parts (s : ByteArray) {k j : Nat} (hk : k ≤ j) (hj : j < s.size) : s.data.toList.drop k = (s.data.toList.drop k).take (j - k) ++ s[j] :: s.data.toList.drop (j + 1) := by
  have hl : s.data.toList.length = s.size := by simp
  have e : s[j] = s.data.toList[j]'(by omega) := by simp; rfl
  have d : s.data.toList.drop j = s.data.toList[j]'(by omega) :: s.data.toList.drop (j + 1) := List.drop_eq_getElem_cons (by omega)
  conv => lhs; rw [← List.take_append_drop (j - k) (s.data.toList.drop k)]
  rw [List.drop_drop, show k + (j - k) = j from by omega, d, e]
theorem LnT.start (s : ByteArray) (k : Nat) : LnT s k k := by unfold LnT; simp
theorem LnT.next {s : ByteArray} {k j : Nat} (h : LnT s k j) (hk : k ≤ j) (hj : j < s.size) (hc : s[j] ≠ 10) : LnT s k (j + 1) := by
  unfold LnT at *
  have hl : s.data.toList.length = s.size := by simp
  have e : s[j] = s.data.toList[j]'(by omega) := by simp; rfl
  rw [show j + 1 - k = (j - k) + 1 from by omega, List.take_succ_eq_append_getElem (by rw [List.length_drop]; omega), List.mem_append, List.getElem_drop]
  rintro (h1 | h1)
  · exact h h1
  · rw [List.mem_singleton] at h1
    apply hc
    rw [e, h1]
    congr 1
    omega
theorem LnT.found {s : ByteArray} {k j : Nat} (h : LnT s k j) (hk : k ≤ j) (hj : j < s.size) (hc : s[j] = 10) : ln10 (s.data.toList.drop k) = some ((s.data.toList.drop k).take (j - k), s.data.toList.drop (j + 1)) := by
  have e := drop_parts s hk hj
  rw [hc] at e
  unfold LnT at h
  obtain ⟨x, hx⟩ : ∃ x, (s.data.toList.drop k).take (j - k) = x := ⟨_, rfl⟩
  rw [hx] at e h ⊢
  rw [e]
  exact ln10_at _ h
theorem LnT.done {s : ByteArray} {k j : Nat} (h : LnT s k j) (hj : ¬ j < s.size) : ln10 (s.data.toList.drop k) = none := by
  have hl : s.data.toList.length = s.size := by simp
  unfold LnT at h
  rw [List.take_of_length_le (by rw [List.length_drop]; omega)] at h
  cases e : ln10 (s.data.toList.drop k) with
  | none => rfl
  | some p =>
    obtain ⟨x, q⟩ := p
    exfalso
    rw [(ln10_is e).1] at h
    exact h (by simp)
theorem byte10 {c : UInt8} (h : (c.toNat : Int) = 10) : c = 10 := UInt8.toNat_inj.1 (by rw [show (10 : UInt8).toNat = 10 from rfl]; omega)
set_option maxHeartbeats 1000000 in
theorem specLn (s : ByteArray) (k : Nat) (w : World) (hk : k ≤ s.size) (hs : s.size ≤ 2000000) :
    Calls Tryz.prog 44 #[.string s, .int .i64 k] w fun e w' => e = .returned (ln10E s (ln10 (s.data.toList.drop k))) ∧ w = w' := by
  go_enter Tryz.func44, Tryz.ntmps44
  go_wp2
  go_loopw [7] (fun i wr => ∃ j : Nat, k ≤ j ∧ j ≤ s.size ∧ i = .int .i64 j ∧ Hid (LnT s k j) ∧ wr = w) (fun i _ => s.size - (intOf i).toNat)
  case atStart => exact ⟨k, Nat.le_refl _, hk, rfl, LnT.start s k, rfl⟩
  case round =>
    obtain ⟨j, hkj, hj, rfl, hat, rfl⟩ := hrel
    by_cases hlt : j < s.size
    · by_cases h10 : (s[j].toNat : Int) = 10
      · have HN : Hid (ln10 (s.data.toList.drop k) = some ((s.data.toList.drop k).take (j - k), s.data.toList.drop (j + 1))) := hat.out.found hkj hlt (byte10 h10)
        have hq : ((s[j].toNat : Int) == 10) = true := by simpa using h10
        clear h10
        go_wp2
        go_ret3
        refine ⟨?_, rfl⟩
        rw [HN.out]
        have e1 : txtL ((s.data.toList.drop k).take (j - k)) = s.extract k j := cut_of s k j
        have e2 : (s.size : Int) - ((s.data.toList.drop (j + 1)).length : Int) = (j : Int) + 1 := by
          have hl : s.data.toList.length = s.size := by simp
          rw [List.length_drop]
          omega
        show _ = Ending.returned (.tuple #[.string (txtL ((s.data.toList.drop k).take (j - k))), .int .i64 ((s.size : Int) - ((s.data.toList.drop (j + 1)).length : Int)), .bool true])
        rw [e1, e2]
        rfl
      · have hq : ((s[j].toNat : Int) == 10) = false := by simpa using h10
        have HN : Hid (LnT s k (j + 1)) := hat.out.next hkj hlt (fun e => h10 (by rw [e]; rfl))
        clear h10
        go_wp2
        go_roundw
        case rel => exact ⟨j + 1, by omega, by omega, by go_num, HN, trivial⟩
        case measure => simp [intOf]; omega
    · have HN : Hid (ln10 (s.data.toList.drop k) = none) := hat.out.done hlt
      go_wp2
      go_ret3
      refine ⟨?_, rfl⟩
      rw [HN.out]
      rfl
/-- What l16Numbers answers: a row of numbers; where it is fine, just the ones of the line. -/
structure NmQ (w w' : World) (x : List UInt8) (c : Nat) (u : Value) (b : Bool) : Prop where
  form : ∃ ua un uc, u = .slice ua un uc
  yes : ∀ ns, numsL c x = some ns → b = true ∧ OwnsNu w' w.heap.size u ns
  no : numsL c x = none → b = false
  low : Below w.heap.size w w'
theorem nums_bad {x : List UInt8} {c : Nat} {y : List UInt8} (hy : y ∈ wrdL x) (h : numOk 10 15 (txtL y) = false) : numsL c x = none := by
  unfold numsL
  rw [if_neg]
  rintro ⟨_, h2⟩
  have := List.all_eq_true.1 h2 y hy
  rw [h] at this
  cases this
theorem nums_all {x : List UInt8} {c : Nat} (h : (wrdL x).all (fun y => numOk 10 15 (txtL y)) = true) : numsL c x = if (wrdL x).length = c then some ((wrdL x).map fun y => numV 10 15 (txtL y)) else none := by
  unfold numsL
  by_cases hc : (wrdL x).length = c
  · rw [if_pos ⟨hc, h⟩, if_pos hc]
  · rw [if_neg (fun hh => hc hh.1), if_neg hc]
end Go.Proofs.YtemmgfnepdgpbaaGreatDoor
namespace Go.Proofs.YtemmgfnepdgpbaaGreatDoor
open Go.RowKit St Ow
set_option linter.unusedVariables false
set_option linter.unusedSimpArgs false

theorem wrd_in : ∀ (l : List UInt8), (∀ y ∈ wrdL l, y.length ≤ l.length) ∧ (wrdL l).length ≤ l.length + 1
  | [] => ⟨fun y hy => by simp [wrdL] at hy; simp [hy], by simp [wrdL]⟩
  | c :: r => by
    obtain ⟨h1, h2⟩ := wrd_in r
    unfold wrdL
    split
    · refine ⟨fun y hy => ?_, by simp; omega⟩
      rcases List.mem_cons.1 hy with rfl | hy
      · simp
      · have := h1 y hy
        simp
        omega
    · cases e : wrdL r with
      | nil => exact ⟨fun y hy => by simp at hy; simp [hy], by simp⟩
      | cons x xs =>
        rw [e] at h1 h2
        refine ⟨fun y hy => ?_, by simpa using Nat.le_succ_of_le h2⟩
        rcases List.mem_cons.1 hy with rfl | hy
        · have := h1 x (List.mem_cons_self ..)
          simp
          omega
        · have := h1 y (List.mem_cons_of_mem _ hy)
          simp
          omega
theorem OwnsS.open {w : World} {B : Nat} {v : Value} {l : List ByteArray} (h : OwnsS w B v l) : ∃ g cap, v = .slice (some ⟨g, 0, none⟩) l.length cap ∧ l.length ≤ cap ∧ cap ≤ maxLen ∧ g < w.heap.size ∧ ∀ j (hj : j < l.length), w.cell? ⟨g, j, none⟩ = some (.string l[j]) := by
  obtain ⟨⟨g, c, rfl, hB, hl⟩, hrow⟩ := h
  refine ⟨g, c, rfl, ?_, ?_, hl, fun j hj => ?_⟩
  · rcases hrow.2 with ⟨e, _⟩ | ⟨g', c', cur, e, _, _, h3, h4, _⟩
    · cases e
    · injection e with _ _ e3; omega
  · rcases hrow.2 with ⟨e, _⟩ | ⟨g', c', cur, e, _, _, h3, h4, _⟩
    · cases e
    · injection e with _ _ e3; omega
  · have := World.ownsRow.cells hrow (g := g) rfl j (.string l[j]) (by simp [hj])
    rw [addr_add, Nat.zero_add] at this
    exact this
theorem num_take {W : List ByteArray} {j : Nat} (hj : j < W.length) : (W.take (j + 1)).map (numV 10 15) = (W.take j).map (numV 10 15) ++ [numV 10 15 W[j]] := by
  rw [List.take_succ_eq_append_getElem hj, List.map_append]
  rfl
theorem num_step {W : List ByteArray} {j : Nat} (hj : j < W.length) (h : (W.take j).all (numOk 10 15) = true) (h2 : numOk 10 15 W[j] = true) : (W.take (j + 1)).all (numOk 10 15) = true := by
  rw [List.take_succ_eq_append_getElem hj, List.all_append, h]
  simp [h2]
theorem wrdS_len (l : List UInt8) : (wrdS l).length = (wrdL l).length := by unfold wrdS; simp
set_option maxRecDepth 100000 in
set_option maxHeartbeats 2000000 in
theorem specNms (s : ByteArray) (c : Nat) (w : World) (hs : s.size ≤ 1048576) (hc : c ≤ 1000) :
    Calls Tryz.prog 45 #[.string s, .int .i64 c] w fun e w' => ∃ u b, e = .returned (.tuple #[u, .bool b]) ∧ NmQ w w' s.data.toList c u b := by
  have hW := fun W => specWords s W hs
  have hsl : s.data.toList.length = s.size := by simp
  have HWS : Hid (∀ x ∈ wrdS s.data.toList, x.size ≤ 1048576) := (show ∀ _, _ from fun x hx => by
    unfold wrdS at hx
    obtain ⟨y, hy, rfl⟩ := List.mem_map.1 hx
    have := (wrd_in s.data.toList).1 y hy
    show y.toArray.size ≤ _
    simp
    omega)
  have hWn : (wrdS s.data.toList).length ≤ 1048577 := by rw [wrdS_len]; have := (wrd_in s.data.toList).2; omega
  have HBAD : Hid (∀ j (hj : j < (wrdS s.data.toList).length), numOk 10 15 (wrdS s.data.toList)[j] = false → numsL c s.data.toList = none) := (show ∀ _, _ from fun j hj h => by
    have hj2 : j < (wrdL s.data.toList).length := by rw [← wrdS_len]; exact hj
    refine nums_bad (y := (wrdL s.data.toList)[j]'hj2) (List.getElem_mem hj2) ?_
    have e : (wrdS s.data.toList)[j] = txtL ((wrdL s.data.toList)[j]'hj2) := by simp [wrdS]
    rw [e] at h
    exact h)
  have HALL : Hid ((wrdS s.data.toList).all (numOk 10 15) = true → numsL c s.data.toList = if (wrdS s.data.toList).length = c then some ((wrdS s.data.toList).map (numV 10 15)) else none) := (show _ → _ from fun h => by
    unfold wrdS at h ⊢
    rw [List.all_map] at h
    rw [nums_all h, List.length_map, List.map_map]
    rfl)
  generalize wrdS s.data.toList = WS at hW HWS hWn HBAD HALL
  obtain ⟨N, hN⟩ : ∃ N, numsL c s.data.toList = N := ⟨_, rfl⟩
  have HN : Hid (numsL c s.data.toList = N) := hN
  rw [hN] at HBAD HALL
  clear hN hsl
  have hdg := fun x W hx => specDig x W hx
  unfold numE at hdg
  go_enter Tryz.func45, Tryz.ntmps45
  go_wp2_with fail
  refine (hW _).mono ?_
  rintro e w1 ⟨u1, rfl, ho1, hb1⟩
  obtain ⟨g, cap, hu1, hcap, hcm, hgl, hcell⟩ := ho1.open
  subst hu1
  have HC : Hid (∀ j (hj : j < WS.length), w1.cell? ⟨g, j, none⟩ = some (.string WS[j])) := hcell
  have HB1 : Hid (Below w.heap.size w w1) := hb1
  have hwz : w.heap.size ≤ w1.heap.size := hb1.size
  unfold maxLen at hcm
  clear hW ho1 hcell hb1
  go_wp2_with fail
  go_loopw [7, 8] (fun a i wr => ∃ j : Nat, j ≤ WS.length ∧ i = .int .i64 j ∧ Hid ((WS.take j).all (numOk 10 15) = true) ∧ Hid (OwnsNu wr w1.heap.size a ((WS.take j).map (numV 10 15))) ∧ Hid (Below w1.heap.size w1 wr)) (fun _ i _ => WS.length - (intOf i).toNat)
  case atStart => exact ⟨0, Nat.zero_le _, rfl, (show Hid _ from rfl), (show OwnsE nuE 2 _ _ _ _ from OwnsE.born w1), (show Hid _ from (Below.refl _ w1).alloc (Nat.le_refl _) _)⟩
  case round =>
    obtain ⟨j, hj, rfl, hall, ho, hb⟩ := hrel
    obtain ⟨oa, oc, hov, hol, hom, _⟩ := ho.out.form
    rw [List.length_map, List.length_take, Nat.min_eq_left hj] at hov hol
    subst hov
    unfold maxLen at hom
    by_cases hlt : j < WS.length
    · have hji : (j : Int) < (WS.length : Int) := by omega
      have c1 := (hb.out.cell (p := ⟨g, j, none⟩) hgl).trans (HC.out j hlt)
      have hd := fun W => hdg WS[j] W (by have := HWS.out _ (List.getElem_mem hlt); unfold maxLen; omega)
      have HB2 := HBAD.out j hlt
      have HST := fun h => num_step hlt hall.out h
      have HTK : Hid (_ = _) := num_take hlt
      generalize WS[j] = x at c1 hd HB2 HST HTK
      cases hok : numOk 10 15 x with
      | false =>
        have hNn : N = none := HB2 hok
        rw [hok] at hd
        clear HST HTK hok HB2
        go_wp2_with fail
        refine (hd _).mono ?_
        rintro e w2 ⟨rfl, hb2⟩
        have B2 : Hid (Below w.heap.size w w2) := (show Below _ _ _ from HB1.out.trans ((hb.out.trans (hb2.mono hb.out.size)).mono hwz))
        have hnn : Hid (N = none) := hNn
        clear hb2 hNn
        go_wp2
        go_ret2
        exact ⟨.slice oa j oc, false, rfl, ⟨⟨_, _, _, rfl⟩, (fun ns h => by rw [HN.out, hnn.out] at h; cases h), fun _ => rfl, B2.out⟩⟩
      | true =>
        have HA2 : Hid _ := HST hok
        rw [hok] at hd
        clear HST hok HB2
        generalize numV 10 15 x = nv at hd HTK
        go_wp2_with fail
        refine (hd _).mono ?_
        rintro e w2 ⟨rfl, hb2⟩
        have B2 : Hid (Below w1.heap.size w1 w2) := (show Below _ _ _ from hb.out.trans (hb2.mono hb.out.size))
        have O2 : Hid (OwnsNu w2 w1.heap.size (.slice oa j oc) ((WS.take j).map (numV 10 15))) := (show OwnsE nuE 2 _ _ _ _ from ho.out.kept hb2)
        clear hb2 hd ho hb
        go_wp2_with (at_builtin; refine wpList_pushNu _ rfl (.tmp 31) (.tmp 33) rfl w1.heap.size _ ((WS.take j).map (numV 10 15)) nv rfl O2.out rfl (by rw [List.length_map, List.length_take]; omega) B2.out.size ?_; intro v3 w3 ho3 hg3; have B3 : Hid (Below w1.heap.size w1 w3) := (show Hid _ from B2.out.grown hg3 B2.out.size O2.out.from); have O3 : Hid (OwnsNu w3 w1.heap.size v3 ((WS.take (j + 1)).map (numV 10 15))) := (show OwnsE nuE 2 _ _ _ _ from by rw [HTK.out]; exact ho3); clear ho3 hg3)
        go_roundw
        case rel => exact ⟨j + 1, by omega, by go_num, HA2, O3, B3⟩
        case measure => simp [intOf]; omega
    · obtain rfl : j = WS.length := by omega
      rw [List.take_length] at ho hall
      have HA3 := HALL.out hall.out
      have B2 : Hid (Below w.heap.size w wr) := (show Below _ _ _ from HB1.out.trans (hb.out.mono hwz))
      have O2 : Hid (OwnsNu wr w.heap.size (.slice oa WS.length oc) (WS.map (numV 10 15))) := (show OwnsE nuE 2 _ _ _ _ from ho.out.low hwz)
      by_cases hlc : WS.length = c
      · rw [if_pos hlc] at HA3
        have hqi : ((WS.length : Int) == (c : Int)) = true := by simp; omega
        have HA4 : Hid (N = some (WS.map (numV 10 15))) := HA3
        clear HA3 hlc ho hall
        go_wp2
        go_ret2
        exact ⟨.slice oa WS.length oc, true, by simp [hqi], ⟨⟨_, _, _, rfl⟩, (fun ns h => by rw [HN.out, HA4.out] at h; injection h with h; subst h; exact ⟨rfl, O2.out⟩), (fun h => by rw [HN.out, HA4.out] at h; cases h), B2.out⟩⟩
      · rw [if_neg hlc] at HA3
        have hqi : ((WS.length : Int) == (c : Int)) = false := by simp; omega
        have HA4 : Hid (N = none) := HA3
        clear HA3 hlc ho hall
        go_wp2
        go_ret2
        exact ⟨.slice oa WS.length oc, false, by simp [hqi], ⟨⟨_, _, _, rfl⟩, (fun ns h => by rw [HN.out, HA4.out] at h; cases h), fun _ => rfl, B2.out⟩⟩
end Go.Proofs.YtemmgfnepdgpbaaGreatDoor
namespace Go.Proofs.YtemmgfnepdgpbaaGreatDoor
open Go.RowKit Go.Sort St
set_option linter.unusedVariables false
set_option linter.unusedSimpArgs false

structure LnR where
  x : ByteArray
  a : Nat
  b : Bool
structure LnQ (s : ByteArray) (k : Nat) (z : LnR) : Prop where
  at_ : z.a ≤ s.size
  sz : z.x.size ≤ s.size
  yes : ∀ x q, ln10 (s.data.toList.drop k) = some (x, q) → z.b = true ∧ z.x = txtL x ∧ s.data.toList.drop z.a = q
  no : ln10 (s.data.toList.drop k) = none → z.b = false
theorem LnQ.is {s : ByteArray} {k : Nat} {z : LnR} (h : LnQ s k z) (hb : z.b = true) : ln10 (s.data.toList.drop k) = some (z.x.data.toList, s.data.toList.drop z.a) := by
  cases e : ln10 (s.data.toList.drop k) with
  | none => rw [h.no e] at hb; cases hb
  | some p =>
    obtain ⟨x, q⟩ := p
    obtain ⟨_, h2, h3⟩ := h.yes x q e
    rw [h2, h3, txt_lstG]
theorem specLnR (s : ByteArray) (k : Nat) (w : World) (hk : k ≤ s.size) (hs : s.size ≤ 1048576) :
    Calls Tryz.prog 44 #[.string s, .int .i64 k] w fun e w' => ∃ z : LnR, e = .returned (.tuple #[.string z.x, .int .i64 (z.a : Nat), .bool z.b]) ∧ LnQ s k z ∧ w = w' := by
  have hsl : s.data.toList.length = s.size := by simp
  refine (specLn s k w hk (by omega)).mono fun e w' ⟨h1, h2⟩ => ?_
  cases e1 : ln10 (s.data.toList.drop k) with
  | none =>
    rw [e1] at h1
    exact ⟨⟨⟨#[]⟩, 0, false⟩, h1, ⟨Nat.zero_le _, Nat.zero_le _, (fun x q h => by rw [e1] at h; cases h), fun _ => rfl⟩, h2⟩
  | some p =>
    obtain ⟨x, q⟩ := p
    rw [e1] at h1
    have hx := (ln10_is e1).1
    have hl := congrArg List.length hx
    rw [List.length_drop] at hl
    simp at hl
    have e2 : (s.size : Int) - (q.length : Int) = ((k + x.length + 1 : Nat) : Int) := by omega
    refine ⟨⟨txtL x, k + x.length + 1, true⟩, ?_, ⟨by show k + x.length + 1 ≤ _; omega, by show (txtL x).size ≤ _; rw [txt_sizG]; omega, fun x' q' h => ?_, fun h => by rw [e1] at h; cases h⟩, h2⟩
    · rw [h1]
      show Ending.returned (.tuple #[.string (txtL x), .int .i64 ((s.size : Int) - (q.length : Int)), .bool true]) = _
      rw [e2]
    · rw [e1] at h
      injection h with h
      injection h with h3 h4
      subst h3
      subst h4
      refine ⟨rfl, rfl, ?_⟩
      show s.data.toList.drop (k + x.length + 1) = q
      rw [show k + x.length + 1 = k + (x.length + 1) from by omega, ← List.drop_drop, hx, ← List.drop_drop]
      simp
theorem NmQ.is {w w' : World} {x : List UInt8} {c : Nat} {u : Value} {b : Bool} (h : NmQ w w' x c u b) (hb : b = true) : ∃ ns, numsL c x = some ns ∧ OwnsNu w' w.heap.size u ns ∧ ns.length = c ∧ ∀ n ∈ ns, few n := by
  cases e : numsL c x with
  | none => rw [h.no e] at hb; cases hb
  | some ns => exact ⟨ns, rfl, (h.yes ns e).2, nums_len e, nums_few e⟩
theorem FdQ.is {w w' : World} {s : ByteArray} {k c : Nat} {u : Value} {a : Nat} {b : Bool} (h : FdQ w w' s k c u a b) (hb : b = true) : ∃ l, fdL c (s.data.toList.drop k) = some (l, s.data.toList.drop a) ∧ OwnsF w' w.heap.size u l ∧ l.length = c := by
  cases e : fdL c (s.data.toList.drop k) with
  | none => rw [h.no e] at hb; cases hb
  | some p =>
    obtain ⟨l, q⟩ := p
    obtain ⟨_, h2, h3, h4⟩ := h.yes l q e
    exact ⟨l, by rw [h3], h2, h4⟩
/-- The parts of a text that is read. -/
structure RdP (t : List UInt8) (k t1 x t2 y t3 : List UInt8) (a b : List Int) : Prop where
  l1 : ln10 t = some (k, t1)
  l2 : ln10 t1 = some (x, t2)
  l3 : ln10 t2 = some (y, t3)
  n1 : numsL 3 x = some a
  n2 : numsL 4 y = some b
theorem rdO_line {t : List UInt8} {o : Ob} (h : rdO t = some o) : ∃ k t1 x t2 y t3 a b, RdP t k t1 x t2 y t3 a b := by
  unfold rdO at h
  simp only [Option.bind_eq_some_iff] at h
  obtain ⟨p, h1, q, h2, s, h3, a, h4, b, h5, _⟩ := h
  exact ⟨p.1, p.2, q.1, q.2, s.1, s.2, a, b, h1, h2, h3, h4, h5⟩
theorem RdP.rd {t k t1 x t2 y t3 : List UInt8} {a b : List Int} (h : RdP t k t1 x t2 y t3 a b) : rdO t = if b.getD 0 0 ≤ 30 ∧ b.getD 2 0 ≤ 30 then
      (fdL (b.getD 0 0).toNat t3).bind fun x => (fdL (b.getD 2 0).toNat x.2).bind fun y =>
        if b.getD 3 0 ≤ (y.2.length : Int) then lastO t (mkO k a b x.1 y.1 (y.2.take (b.getD 3 0).toNat)) else none
    else none := by
  unfold rdO
  rw [h.l1]
  simp only [Option.bind_some, h.l2, h.l3, h.n1, h.n2]
/-- What ReadObject answers. -/
structure RoR where
  o : Ob
  v : Value
  u : Value
  n : Int
  b : Bool
structure RoQ (w w' : World) (R : Option Ob) (z : RoR) : Prop where
  yes : ∀ o, R = some o → z.o = o ∧ z.b = true ∧ z.n = ((shoL o).length : Nat)
  no : R = none → z.o = noO ∧ z.b = false ∧ z.n = 0
  v : OwnsF w' w.heap.size z.v z.o.l
  u : OwnsF w' w.heap.size z.u z.o.r.l
  ne : ∀ g, z.v.ownBlock = some g → z.u.ownBlock ≠ some g
  low : Below w.heap.size w w'
theorem ownsF_none (w : World) (B : Nat) : OwnsF w B (.slice none 0 0) [] := ⟨by simp [cellsF], .inl ⟨rfl, rfl⟩⟩
theorem ro_no {w w' : World} {R : Option Ob} (h : R = none) (hb : Below w.heap.size w w') : ∃ z : RoR, Ending.returned (.tuple #[obV noO (.slice none 0 0) (.slice none 0 0), .int .i64 0, .bool false]) = .returned (.tuple #[obV z.o z.v z.u, .int .i64 z.n, .bool z.b]) ∧ RoQ w w' R z :=
  ⟨⟨noO, .slice none 0 0, .slice none 0 0, 0, false⟩, rfl, ⟨(fun o ho => by rw [h] at ho; cases ho), fun _ => ⟨rfl, rfl, rfl⟩, ownsF_none _ _, ownsF_none _ _, (fun g hg => by cases hg), hb⟩⟩
theorem nu_open {w : World} {B : Nat} {u : Value} {ns : List Int} (h : OwnsNu w B u ns) (hp : 0 < ns.length) : ∃ g cap, u = .slice (some ⟨g, 0, none⟩) ns.length cap ∧ ns.length ≤ cap ∧ cap ≤ maxLen ∧ ∀ j (hj : j < ns.length), w.cell? ⟨g, j, none⟩ = some (.int .i64 ns[j]) := by
  obtain ⟨ua, uc, rfl, h1, h2, h3⟩ := h.form
  rcases h3 with ⟨_, h0⟩ | ⟨g, rfl⟩
  · omega
  · exact ⟨g, uc, rfl, h1, h2, fun j hj => ownsNu_at h j hj⟩
theorem ns_three {ns : List Int} (h : ns.length = 3) : ∃ a b c, ns = [a, b, c] := by
  match ns, h with
  | [a, b, c], _ => exact ⟨a, b, c, rfl⟩
theorem ns_four {ns : List Int} (h : ns.length = 4) : ∃ a b c d, ns = [a, b, c, d] := by
  match ns, h with
  | [a, b, c, d], _ => exact ⟨a, b, c, d, rfl⟩
theorem solidS {w : World} {B : Nat} {v : Value} {l : List Fl} (h : OwnsF w B v l) : Solid v := by
  rcases h.2 with ⟨h0, _⟩ | ⟨g, cap, cur, hv, _⟩
  · rw [h0]; intro n c e; injection e with _ _ e; exact e.symm
  · rw [hv]; intro n c e; injection e with e _ _; cases e
theorem fitsS {w : World} {B : Nat} {v : Value} {l : List Fl} (h : OwnsF w B v l) (h1 : szL l ≤ 1048576) (h2 : l.length ≤ 1048576) : Fits w v l := ⟨h.fls, h1, h2, solidS h⟩
theorem putlowS {w : World} {B g : Nat} {v : Value} {l : List Fl} (h : OwnsF w B v l) (hg : g < B) (k : Nat) (x : Value) : OwnsF (w.setCell ⟨g, k, none⟩ x) B v l := by
  refine ⟨h.1, ?_⟩
  rcases h.2 with h0 | ⟨g2, cap, cur, hv, hbg, hg2, rest⟩
  · exact .inl h0
  · exact .inr ⟨g2, cap, cur, hv, hbg, (Below.heap_setCell _ _ _ _ (by show g2 ≠ g; omega)).trans hg2, rest⟩
theorem putLS {B g : Nat} {v : Value} {l : List Fl} : ∀ {w : World} (h : OwnsF w B v l) (hg : g < B) (vs : List Value) (i : Nat), OwnsF (putL w g vs i) B v l
  | w, h, hg, [], _ => h
  | w, h, hg, x :: vs, i => putLS (putlowS h hg i x) hg vs (i + 1)
theorem fld_small (x : List UInt8) : (fldAt x).1.size + (fldAt x).2.size ≤ x.length := by
  unfold fldAt
  show (txtL _).size + (txtL _).size ≤ _
  rw [txt_sizG, txt_sizG, List.length_take, List.length_drop]
  have := colK_le x
  omega
theorem fd_small : ∀ (c : Nat) (t : List UInt8) {l : List Fl} {q : List UInt8}, fdL c t = some (l, q) → szL l + q.length ≤ t.length ∧ l.length = c
  | 0, t, l, q, h => by
    simp only [fdL, Option.some.injEq, Prod.mk.injEq] at h
    obtain ⟨rfl, rfl⟩ := h
    exact ⟨by simp [szL_nil], rfl⟩
  | c + 1, t, l, q, h => by
    rw [fdL] at h
    cases e : lnS t with
    | none => rw [e] at h; cases h
    | some p =>
      obtain ⟨x, r⟩ := p
      rw [e] at h
      simp only at h
      split at h
      · cases e2 : fdL c r with
        | none => rw [e2] at h; cases h
        | some p2 =>
          obtain ⟨l2, q2⟩ := p2
          rw [e2] at h
          simp only [Option.map_some, Option.some.injEq, Prod.mk.injEq] at h
          obtain ⟨rfl, rfl⟩ := h
          obtain ⟨i1, i2⟩ := fd_small c r e2
          have hl := congrArg List.length (lnC_length (lnS_some e).1)
          simp at hl
          have hs := fld_small x
          have e3 : szL (fldAt x :: l2) = (fldAt x).1.size + (fldAt x).2.size + szL l2 := by simp [szL, szF]
          exact ⟨by rw [e3]; omega, by simp [i2]⟩
      · cases h
theorem bytes_sameG {a b : ByteArray} : (a.toList == b.toList) = decide (a = b) := by
  by_cases h : a = b
  · subst h; simp
  · rw [decide_eq_false h]
    have : ¬ a.toList = b.toList := fun e => h (bytes_extG (by rw [ByteArray.toList_eq, ByteArray.toList_eq] at e; exact e))
    simp [this]
theorem pre_iffG {r d : ByteArray} : r.data.toList <+: d.data.toList ↔ r.size ≤ d.size ∧ d.extract 0 r.size = r := by
  have hr : r.data.toList.length = r.size := by simp
  have hd : d.data.toList.length = d.size := by simp
  have e : (d.extract 0 r.size).data.toList = d.data.toList.take r.size := by simp [ByteArray.data_extract, List.extract_eq_take_drop]
  rw [List.prefix_iff_eq_take]
  constructor
  · intro h
    refine ⟨?_, bytes_extG (by rw [e, ← hr]; exact h.symm)⟩
    have := congrArg List.length h
    rw [List.length_take] at this
    omega
  · rintro ⟨_, h⟩
    rw [hr, ← e, h]
theorem void_ofG {s : ByteArray} : s.toList.isEmpty = decide (s.size = 0) := by
  have hlen : s.data.toList.length = s.size := by simp
  rw [ByteArray.toList_eq, ← hlen]
  cases s.data.toList <;> simp
theorem ro_yes {w w' : World} {R : Option Ob} {o : Ob} {v u : Value} {n : Int} (h : R = some o) (hn : n = ((shoL o).length : Nat)) (hv : OwnsF w' w.heap.size v o.l) (hu : OwnsF w' w.heap.size u o.r.l) (hne : ∀ g, v.ownBlock = some g → u.ownBlock ≠ some g) (hb : Below w.heap.size w w') : ∃ z : RoR, Ending.returned (.tuple #[obV o v u, .int .i64 n, .bool true]) = .returned (.tuple #[obV z.o z.v z.u, .int .i64 z.n, .bool z.b]) ∧ RoQ w w' R z :=
  ⟨⟨o, v, u, n, true⟩, rfl, ⟨(fun p hp => by rw [h] at hp; injection hp with hp; subst hp; exact ⟨rfl, rfl, hn⟩), (fun hx => by rw [h] at hx; cases hx), hv, hu, hne, hb⟩⟩
end Go.Proofs.YtemmgfnepdgpbaaGreatDoor
