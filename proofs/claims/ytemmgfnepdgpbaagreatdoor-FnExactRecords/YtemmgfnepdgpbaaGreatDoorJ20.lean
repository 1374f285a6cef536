/-
  A block of cells of one's own: what lies in it, and for how long.
  The program's takenOf and what Records hands to eachRecord, by their contracts.
  The specification's lines and numbers of a line, by their contracts.
-/
import Derived.Test.YtemmgfnepdgpbaaGreatDoorJ12
import Derived.Test.YtemmgfnepdgpbaaGreatDoorJ01
import Derived.Test.YtemmgfnepdgpbaaGreatDoorJ19
import Derived.Test.YtemmgfnepdgpbaaGreatDoorJ17
import Derived.Test.YtemmgfnepdgpbaaGreatDoorJ13
namespace Go.Proofs.YtemmgfnepdgpbaaGreatDoor
open Go.RowKit
set_option linter.unusedVariables false

/-- The block b holds just these cells, and may be written. -/
def Bx (W : World) (b : Nat) (ty : TypeId) (vs : Array Value) : Prop := W.heap[b]? = some (.cells vs ty (0, 0))
theorem Bx.new (W : World) (ty : TypeId) (vs : Array Value) : Bx (W.alloc (.cells vs ty)) W.heap.size ty vs := by
  show (W.heap.push _)[W.heap.size]? = _
  simp
theorem Bx.cell {W : World} {b : Nat} {ty : TypeId} {vs : Array Value} (h : Bx W b ty vs) (i : Nat) : W.cell? ⟨b, i, none⟩ = vs[i]? := by
  have h : W.heap[b]? = some (.cells vs ty (0, 0)) := h
  simp [World.cell?, h]
theorem Bx.free {W : World} {b : Nat} {ty : TypeId} {vs : Array Value} (h : Bx W b ty vs) (i : Nat) : W.frozen? ⟨b, i, none⟩ = false := by
  have h : W.heap[b]? = some (.cells vs ty (0, 0)) := h
  simp [World.frozen?, h]
theorem Bx.lt {W : World} {b : Nat} {ty : TypeId} {vs : Array Value} (h : Bx W b ty vs) : b < W.heap.size := (Array.getElem?_eq_some_iff.1 h).1
theorem Bx.low {W W' : World} {b B : Nat} {ty : TypeId} {vs : Array Value} (h : Bx W b ty vs) (hb : Below B W W') (hB : b < B) : Bx W' b ty vs := (hb.block b hB).trans h
theorem Bx.kept {W W' : World} {b : Nat} {ty : TypeId} {vs : Array Value} (h : Bx W b ty vs) (hb : Below W.heap.size W W') : Bx W' b ty vs := h.low hb h.lt
theorem Bx.grown {W W' : World} {b : Nat} {ty : TypeId} {vs : Array Value} {r : Option Nat} (h : Bx W b ty vs) (hg : W.grownBy W' r) (hr : r ≠ some b) : Bx W' b ty vs := (hg.block b h.lt fun e => hr e.symm).trans h
theorem Bx.put {W : World} {b : Nat} {ty : TypeId} {vs : Array Value} (h : Bx W b ty vs) (i : Nat) (v : Value) : Bx (W.setCell ⟨b, i, none⟩ v) b ty (vs.setIfInBounds i v) := heap_setCell_same W b i _ _ v h
theorem Bx.other {W : World} {b g : Nat} {ty : TypeId} {vs : Array Value} (h : Bx W b ty vs) (i : Nat) (v : Value) (hne : b ≠ g) : Bx (W.setCell ⟨g, i, none⟩ v) b ty vs := (Below.heap_setCell _ _ _ _ hne).trans h
theorem Bx.alloc {W : World} {b : Nat} {ty : TypeId} {vs : Array Value} (h : Bx W b ty vs) (o : Obj) : Bx (W.alloc o) b ty vs := h.kept ((Below.refl _ W).alloc (Nat.le_refl _) _)
theorem Bx.drew {W : World} {b : Nat} {ty : TypeId} {vs : Array Value} (h : Bx W b ty vs) : Bx W.drew b ty vs := h
end Go.Proofs.YtemmgfnepdgpbaaGreatDoor
namespace Go.Proofs.YtemmgfnepdgpbaaGreatDoor
open Go.RowKit Go.Sort St
set_option linter.unusedVariables false
set_option linter.unusedSimpArgs false

set_option maxHeartbeats 4000000 in
theorem implTkn (e : Nat) (n : Int) (x : Value) (w : World) (hx : XsR w) (he : Bx w e 107 #[.int .i64 n, x]) :
    Calls Tryz.prog 56 #[.iface 105 (.pointer (some ⟨e, 0, none⟩))] w fun ev w' => ev = .returned (.int .i64 n) ∧ Below w.heap.size w w' := by
  have bA := (Below.refl w.heap.size w).alloc (Nat.le_refl _) (.cells #[.pointer none] 105)
  have XA := Bx.new w 105 #[.pointer none]
  have EA := he.alloc (.cells #[.pointer none] 105)
  have hg := (bA.cell (p := ⟨1, 0, none⟩) (cell_ltS hx.ty)).trans hx.ty
  have hel : e < w.heap.size := he.lt
  clear hx he
  go_enter Tryz.func56, Tryz.ntmps56
  generalize hwA : w.alloc (.cells #[.pointer none] 105) = wA at bA XA EA hg
  have has := as_own ⟨e, 0, none⟩ ⟨w.heap.size, 0, none⟩ (.pointer none) wA hg (by rw [XA.cell]; rfl) (XA.free 0)
  go_wp2_with fail
  refine has.mono ?_
  rintro ev w1 ⟨rfl, hw⟩
  have hz : w.heap.size < wA.heap.size := XA.lt
  have c1 : w1.cell? ⟨w.heap.size, 0, none⟩ = some (.pointer (some ⟨e, 0, none⟩)) := by
    rw [hw]
    exact ((((XA.alloc _).alloc _).alloc _).alloc _).put 0 (.pointer (some ⟨e, 0, none⟩)) |>.cell 0
  have E1 : Bx w1 e 107 #[.int .i64 n, x] := by
    rw [hw]
    exact ((((EA.alloc _).alloc _).alloc _).alloc _).other 0 _ (by omega)
  have c2 : w1.cell? ⟨e, 0, none⟩ = some (.int .i64 n) := E1.cell 0
  have B1 : Hid (Below w.heap.size w w1) := (show Below _ _ _ by
    rw [hw]
    exact ((((bA.alloc (by omega) _).alloc (by simp; omega) _).alloc (by simp; omega) _).alloc (by simp; omega) _).setCell (Nat.le_refl _) _)
  clear hw has E1 XA EA hg bA hwA
  go_wp2
  go_ret
  exact ⟨rfl, B1.out⟩
theorem wpList_pushTS {ops : Array Oper} {rest : List Oper} {o : Oper} {a : Act} {Q : Exit → Act → World → Prop} (w : World) (hgd : o.guard = none) (s x : Operand)
    (ho : o.op = .call { callee := .builtin .append, args := #[s, x], argTypes := #[39, 39] }) (B b : Nat) (hb : b = w.heap.size) (v : Value) (l : List ByteArray) (c : ByteArray) (hs : a.eval s = v) (hown : OwnsE txtE 9 w B v l)
    (hx : a.eval x = .slice (some ⟨b, 0, none⟩) 1 1) (hlen : l.length ≤ 1100000) (hB : B ≤ w.heap.size)
    (h : ∀ v' w', OwnsE txtE 9 w' B v' (l ++ [c]) → w.grownBy w' v.ownBlock → (v'.ownBlock = v.ownBlock ∨ v'.ownBlock = some (w.heap.size + 1)) → wpList Tryz.prog ops Q rest (a.put o.dst v') w') :
    wpList Tryz.prog ops Q (o :: rest) a (w.alloc (.cells #[.string c] 9)) := by
  subst hb
  refine wpList_rowE_at (E := txtE) _ hgd s x 39 9 (.string ⟨#[]⟩) 16 Tryz.underlying39 Tryz.info9s rfl ho B v l hs (OwnsE.alloc hown _) ⟨w.heap.size, 0, none⟩ 1 [c] hx (fresh_cell w c #[.string c] 9 rfl) (by unfold maxLen; simp; omega) (by simp; omega) (by simp; omega) ?_
  intro v' w' h1 h2 h3 h4
  refine h v' w' h1 ⟨h2.os, h2.tape, h2.output, ?_, ?_⟩ ?_
  · have := h2.size
    simp at this
    omega
  · intro k hk hne
    rw [h2.block k (by simp; omega) hne]
    exact Below.heap_alloc _ _ _ hk
  · simpa using h4
/-- The texts so far, in a variable of their own. -/
structure Tv (W : World) (B b : Nat) (l : List ByteArray) : Prop where
  bx : ∃ v, Bx W b 39 #[v] ∧ OwnsE txtE 9 W B v l ∧ ∀ k, v.ownBlock = some k → k ≠ b
theorem Tv.kept {W W' : World} {B b : Nat} {l : List ByteArray} (h : Tv W B b l) (hb : Below W.heap.size W W') : Tv W' B b l := by
  obtain ⟨v, h1, h2, h3⟩ := h.bx
  exact ⟨v, h1.kept hb, h2.kept hb, h3⟩
set_option maxHeartbeats 4000000 in
theorem implClo (t : ByteArray) (B b : Nat) (l : List ByteArray) (w : World) (h : Tv w B b l) (hB : B ≤ b) (hBw : B ≤ w.heap.size) (hl : l.length ≤ 1100000) :
    Calls Tryz.prog 55 #[.string t, .pointer (some ⟨b, 0, none⟩)] w fun e w' => e = .returned .nilIface ∧ Tv w' B b (l ++ [t]) ∧ Below B w w' := by
  obtain ⟨v, X, O, hne⟩ := h.bx
  have c0 : w.cell? ⟨b, 0, none⟩ = some v := X.cell 0
  have hbl := X.lt
  have hfr := O.from
  obtain ⟨oa, oc, hov, hol, hom, hform⟩ := O.form
  subst hov
  have XH : Hid (Bx w b 39 #[.slice oa l.length oc]) := X
  have HN : Hid (∀ k, (Value.slice oa l.length oc).ownBlock = some k → k ≠ b) := hne
  have HF : Hid (∀ k, (Value.slice oa l.length oc).ownBlock = some k → B ≤ k) := hfr
  have OH : Hid (OwnsE txtE 9 w B (.slice oa l.length oc) l) := O
  clear h X hne hfr O hform hom hol
  go_enter Tryz.func55, Tryz.ntmps55
  have HBL : Hid (b < w.heap.size) := hbl
  have HBW : Hid (B ≤ w.heap.size) := hBw
  go_wp2_with (at_builtin; refine wpList_pushTS _ rfl (.tmp 4) (.tmp 6) rfl B w.heap.size rfl _ l t rfl OH.out rfl hl hBw ?_; intro v2 w2 ho hg hat; have X2 := XH.out.grown hg (fun e => HN.out b e rfl); have c2 := X2.cell 0; have f2 := X2.free 0; obtain ⟨va2, vc2, hv2, _, _, _⟩ := ho.form; subst hv2)
  have hN2 : ∀ k, (Value.slice va2 (l ++ [t]).length vc2).ownBlock = some k → k ≠ b := fun k hk => by
    rcases hat with h | h
    · exact HN.out k (h ▸ hk)
    · rw [h] at hk
      have := HBL.out
      injection hk with hk
      omega
  have HT2 : Hid (Tv (w2.setCell ⟨b, 0, none⟩ (.slice va2 (l ++ [t]).length vc2)) B b (l ++ [t])) := (show Tv _ _ _ _ from ⟨_, X2.put 0 _, ho.other ⟨b, 0, none⟩ _ hN2, hN2⟩)
  have HB2 : Hid (Below B w (w2.setCell ⟨b, 0, none⟩ (.slice va2 (l ++ [t]).length vc2))) := (show Below _ _ _ from ((Below.refl B w).grown hg HBW.out HF.out).setCell hB _)
  clear hat hg ho X2 c2 f2 hN2
  have h1 := HT2.out
  have h2 := HB2.out
  rw [show (l ++ [t]).length = l.length + 1 from by simp] at h1 h2
  go_ret
  exact ⟨rfl, h1, h2⟩
end Go.Proofs.YtemmgfnepdgpbaaGreatDoor
namespace Go.Proofs.YtemmgfnepdgpbaaGreatDoor
open Go.RowKit St
set_option linter.unusedVariables false
set_option linter.unusedSimpArgs false

def ln10E (s : ByteArray) (r : Option (List UInt8 × List UInt8)) : Value := match r with
  | none => .tuple #[.string ⟨#[]⟩, .int .i64 0, .bool false]
  | some (x, q) => .tuple #[.string (txtL x), .int .i64 ((s.size : Int) - (q.length : Int)), .bool true]
/-- No byte 10 from k up to j. -/
def LnT (s : ByteArray) (k j : Nat) : Prop := (10 : UInt8) ∉ (s.data.toList.drop k).take (j - k)
theorem drop_parts (s : ByteArray) {k j : Nat} (hk : k ≤ j) (hj : j < s.size) : s.data.toList.drop k = (s.data.toList.drop k).take (j - k) ++ s[j] :: s.data.toList.drop (j + 1) := by
  have hl : s.data.toList.length = s.size := by simp
  have e : s[j] = s.data.toList[j]'(by omega) := by simp; rfl
  have d : s.data.toList.drop j = s.data.toList[j]'(by omega) :: s.data.toList.drop (j + 1) := List.drop_eq_getElem_cons (by omega)
  conv => lhs; rw [← List.take_append_drop (j - k) (s.data.toList.drop k)]
  rw [List.drop_drop, show k + (j - k) = j from by omega, d, e]
theorem LnT.start (s : ByteArray) (k : Nat) : LnT s k k := by unfold LnT; simp
theorem LnT.next {s : ByteArray} {k j : Nat} (h : LnT s k j) (hk : k ≤ j) (hj : j < s.size) (hc : s[j] ≠ 10) : LnT s k (j + 1) := by
  unfold LnT at *
  have hl : s.data.toList.length = s.size := by simp
  have e : s[j] = s.data.toList[j]'(by omega) := by simp; rfl
  rw [show j + 1 - k = (j - k) + 1 from by omega, List.take_succ_eq_append_getElem (by rw [List.length_drop]; omega), List.mem_append, List.getElem_drop]
  rintro (h1 | h1)
  · exact h h1
  · rw [List.mem_singleton] at h1
    apply hc
    rw [e, h1]
    congr 1
    omega
theorem LnT.found {s : ByteArray} {k j : Nat} (h : LnT s k j) (hk : k ≤ j) (hj : j < s.size) (hc : s[j] = 10) : ln10 (s.data.toList.drop k) = some ((s.data.toList.drop k).take (j - k), s.data.toList.drop (j + 1)) := by
  have e := drop_parts s hk hj
  rw [hc] at e
  unfold LnT at h
  obtain ⟨x, hx⟩ : ∃ x, (s.data.toList.drop k).take (j - k) = x := ⟨_, rfl⟩
  rw [hx] at e h ⊢
  rw [e]
  exact ln10_at _ h
theorem LnT.done {s : ByteArray} {k j : Nat} (h : LnT s k j) (hj : ¬ j < s.size) : ln10 (s.data.toList.drop k) = none := by
  have hl : s.data.toList.length = s.size := by simp
  unfold LnT at h
  rw [List.take_of_length_le (by rw [List.length_drop]; omega)] at h
  cases e : ln10 (s.data.toList.drop k) with
  | none => rfl
  | some p =>
    obtain ⟨x, q⟩ := p
    exfalso
    rw [(ln10_is e).1] at h
    exact h (by simp)
theorem byte10 {c : UInt8} (h : (c.toNat : Int) = 10) : c = 10 := UInt8.toNat_inj.1 (by rw [show (10 : UInt8).toNat = 10 from rfl]; omega)
set_option maxHeartbeats 1000000 in
theorem specLn (s : ByteArray) (k : Nat) (w : World) (hk : k ≤ s.size) (hs : s.size ≤ 2000000) :
    Calls Tryz.prog 44 #[.string s, .int .i64 k] w fun e w' => e = .returned (ln10E s (ln10 (s.data.toList.drop k))) ∧ w = w' := by
  go_enter Tryz.func44, Tryz.ntmps44
  go_wp2
  go_loopw [7] (fun i wr => ∃ j : Nat, k ≤ j ∧ j ≤ s.size ∧ i = .int .i64 j ∧ Hid (LnT s k j) ∧ wr = w) (fun i _ => s.size - (intOf i).toNat)
  case atStart => exact ⟨k, Nat.le_refl _, hk, rfl, LnT.start s k, rfl⟩
  case round =>
    obtain ⟨j, hkj, hj, rfl, hat, rfl⟩ := hrel
    by_cases hlt : j < s.size
    · by_cases h10 : (s[j].toNat : Int) = 10
      · have HN : Hid (ln10 (s.data.toList.drop k) = some ((s.data.toList.drop k).take (j - k), s.data.toList.drop (j + 1))) := hat.out.found hkj hlt (byte10 h10)
        have hq : ((s[j].toNat : Int) == 10) = true := by simpa using h10
        clear h10
        go_wp2
        go_ret3
        refine ⟨?_, rfl⟩
        rw [HN.out]
        have e1 : txtL ((s.data.toList.drop k).take (j - k)) = s.extract k j := cut_of s k j
        have e2 : (s.size : Int) - ((s.data.toList.drop (j + 1)).length : Int) = (j : Int) + 1 := by
          have hl : s.data.toList.length = s.size := by simp
          rw [List.length_drop]
          omega
        show _ = Ending.returned (.tuple #[.string (txtL ((s.data.toList.drop k).take (j - k))), .int .i64 ((s.size : Int) - ((s.data.toList.drop (j + 1)).length : Int)), .bool true])
        rw [e1, e2]
        rfl
      · have hq : ((s[j].toNat : Int) == 10) = false := by simpa using h10
        have HN : Hid (LnT s k (j + 1)) := hat.out.next hkj hlt (fun e => h10 (by rw [e]; rfl))
        clear h10
        go_wp2
        go_roundw
        case rel => exact ⟨j + 1, by omega, by omega, by go_num, HN, trivial⟩
        case measure => simp [intOf]; omega
    · have HN : Hid (ln10 (s.data.toList.drop k) = none) := hat.out.done hlt
      go_wp2
      go_ret3
      refine ⟨?_, rfl⟩
      rw [HN.out]
      rfl
/-- What l16Numbers answers: a row of numbers; where it is fine, just the ones of the line. -/
structure NmQ (w w' : World) (x : List UInt8) (c : Nat) (u : Value) (b : Bool) : Prop where
  form : ∃ ua un uc, u = .slice ua un uc
  yes : ∀ ns, numsL c x = some ns → b = true ∧ OwnsNu w' w.heap.size u ns
  no : numsL c x = none → b = false
  low : Below w.heap.size w w'
theorem nums_bad {x : List UInt8} {c : Nat} {y : List UInt8} (hy : y ∈ wrdL x) (h : numOk 10 15 (txtL y) = false) : numsL c x = none := by
  unfold numsL
  rw [if_neg]
  rintro ⟨_, h2⟩
  have := List.all_eq_true.1 h2 y hy
  rw [h] at this
  cases this
theorem nums_all {x : List UInt8} {c : Nat} (h : (wrdL x).all (fun y => numOk 10 15 (txtL y)) = true) : numsL c x = if (wrdL x).length = c then some ((wrdL x).map fun y => numV 10 15 (txtL y)) else none := by
  unfold numsL
  by_cases hc : (wrdL x).length = c
  · rw [if_pos ⟨hc, h⟩, if_pos hc]
  · rw [if_neg (fun hh => hc hh.1), if_neg hc]
end Go.Proofs.YtemmgfnepdgpbaaGreatDoor
