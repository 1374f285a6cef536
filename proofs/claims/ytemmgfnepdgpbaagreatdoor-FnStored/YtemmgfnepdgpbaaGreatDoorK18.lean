/-
  The contracts of the specification's line and of the program's field of a line.
  The program's fields of a store, by their contract.
  The specification's Get of any fields.
  The specification's RequestOk, ResponseOk and Framing by their contracts.
-/
import Derived.Test.YtemmgfnepdgpbaaGreatDoorK11
import Derived.Test.YtemmgfnepdgpbaaGreatDoorK17
import Derived.Shelf.Abstract
import Derived.Test.YtemmgfnepdgpbaaGreatDoorK07
import Derived.Test.YtemmgfnepdgpbaaGreatDoorK05
import Derived.Laws.AppendOwnNone
import Derived.Test.YtemmgfnepdgpbaaGreatDoorK16
import Derived.Test.YtemmgfnepdgpbaaGreatDoorShelfC
import Derived.Test.YtemmgfnepdgpbaaGreatDoorK13
import Derived.Test.YtemmgfnepdgpbaaGreatDoorK14
namespace Go.Proofs.YtemmgfnepdgpbaaGreatDoor
open Go.RowKit Go.Sort

/-- What the program's field of a line answers. -/
def rdFE : Option Fl → Value
  | none => .tuple #[.agg #[.string ⟨#[]⟩, .string ⟨#[]⟩], .bool false]
  | some f => .tuple #[.agg #[.string f.1, .string f.2], .bool true]
theorem box_cells {w : World} {b : Nat} {p q : ByteArray} (h : w.heap[b]? = some (.cells #[.string p, .string q] 83)) : w.cell? ⟨b, 0, none⟩ = some (.string p) ∧ w.cell? ⟨b, 1, none⟩ = some (.string q) ∧ w.frozen? ⟨b, 0, none⟩ = false ∧ w.frozen? ⟨b, 1, none⟩ = false :=
  ⟨by rw [cell_of_row w _ 0 _ _ _ h]; rfl, by rw [cell_of_row w _ 1 _ _ _ h]; rfl, frozen_of_row w b 0 _ _ h, frozen_of_row w b 1 _ _ h⟩
theorem below_block {w w' : World} {b : Nat} {o : Obj} (h : w.heap[b]? = some o) (hb : Below w.heap.size w w') : w'.heap[b]? = some o := by
  rw [hb.block b (Array.getElem?_eq_some_iff.1 h).1]; exact h
theorem len_app {x a b : List UInt8} (h : colL x = some (a, b)) : a.length + b.length + 1 = x.length := by
  rw [(colL_is h).1]; simp; omega
theorem txt_size (l : List UInt8) : (⟨l.toArray⟩ : ByteArray).size = l.length := by show l.toArray.size = _; simp

set_option maxHeartbeats 2000000 in
theorem implRdF (x : ByteArray) (m : Int) (w : World) (hm : w.cell? ⟨3, 0, none⟩ = some (.int .i64 m)) (hx : x.size ≤ 1048576) :
    Calls Tryz.prog 103 #[.string x] w fun e w' => e = .returned (rdFE (rdF x.data.toList)) ∧ Below w.heap.size w w' := by
  have b0 : (w.alloc (.cells #[.string ⟨#[]⟩, .string ⟨#[]⟩] 83)).heap[w.heap.size]? = some (.cells #[.string ⟨#[]⟩, .string ⟨#[]⟩] 83) := heap_alloc_new w _
  have bl := box_lt w (.cells #[.string ⟨#[]⟩, .string ⟨#[]⟩] 83)
  have hba := (Below.refl w.heap.size w).alloc (Nat.le_refl _) (.cells #[.string ⟨#[]⟩, .string ⟨#[]⟩] 83)
  have hm0 := ((Below.refl w.heap.size w).alloc (Nat.le_refl _) (.cells #[.string ⟨#[]⟩, .string ⟨#[]⟩] 83)).cell (p := ⟨3, 0, none⟩) (cell_lt hm) |>.trans hm
  have hxl : x.data.toList.length = x.size := by simp
  have hcut := Tryz.strings_Cut x ⟨#[58]⟩ m _ (by omega) hm0
  rw [show (⟨#[58]⟩ : ByteArray).data.toList = [58] from rfl, cut_col] at hcut
  cases hc : colL x.data.toList with
  | none =>
    rw [hc] at hcut
    rw [rdF_col hc]
    simp only [text_of] at hcut
    go_enter Tryz.func103, Tryz.ntmps103
    go_wp2_with fail
    refine hcut.mono ?_
    rintro e w1 ⟨rfl, q, rfl⟩
    go_wp2_with fail
    refine (clone x _ hx).mono ?_
    rintro e w2 ⟨rfl, hb2⟩
    go_wp2_with fail
    refine (implTrim ⟨#[]⟩ _ (by decide)).mono ?_
    rintro e w3 ⟨rfl, hb3⟩
    have d3 := below_block (below_block (show ((w.alloc (.cells #[.string ⟨#[]⟩, .string ⟨#[]⟩] 83)).drewN q).heap[w.heap.size]? = _ from b0) hb2) hb3
    have hb03 : Below w.heap.size w w3 := (hba.trans ((show Below (w.alloc (.cells #[.string ⟨#[]⟩, .string ⟨#[]⟩] 83)).heap.size (w.alloc (.cells #[.string ⟨#[]⟩, .string ⟨#[]⟩] 83)) w2 from ⟨hb2.os, hb2.tape, hb2.output, hb2.size, hb2.block⟩).mono (Nat.le_of_lt bl))).trans (hb3.mono (Nat.le_trans (Nat.le_of_lt bl) hb2.size))
    have d4 := below_block d3 ((Below.refl w3.heap.size w3).alloc (Nat.le_refl _) (.cells #[.string x, .string (trimB ⟨#[]⟩)] 83))
    have hb04 := hb03.alloc hb03.size (.cells #[.string x, .string (trimB ⟨#[]⟩)] 83)
    obtain ⟨c0, c1, f0, f1⟩ := box_cells d4
    clear b0 d3 d4 hb2 hb3 hb03 hcut hba
    go_wp2
    refine bodyPost_ret (v := .tuple #[.agg #[.string ⟨#[]⟩, .string ⟨#[]⟩], .bool false]) (by simp [results, Tryz.results103, go_sem, c0, c1]) rfl ⟨rfl, (hb04.setCell (Nat.le_refl _) _).setCell (Nat.le_refl _) _⟩
  | some p =>
    obtain ⟨a, b⟩ := p
    rw [hc] at hcut
    have hlen := len_app hc
    have za := txt_size a
    have zb := txt_size b
    have zt := trimB_size ⟨b.toArray⟩
    cases hok : fldOk (fldT a b) with
    | false =>
      rw [rdF_no hc hok]
      unfold fldT at hok
      generalize (⟨a.toArray⟩ : ByteArray) = n0 at hcut hok za
      generalize (⟨b.toArray⟩ : ByteArray) = v0 at hcut hok zb zt
      go_enter Tryz.func103, Tryz.ntmps103
      go_wp2_with fail
      refine hcut.mono ?_
      rintro e w1 ⟨rfl, q, rfl⟩
      go_wp2_with fail
      refine (clone n0 _ (by omega)).mono ?_
      rintro e w2 ⟨rfl, hb2⟩
      go_wp2_with fail
      refine (implTrim v0 _ (by omega)).mono ?_
      rintro e w3 ⟨rfl, hb3⟩
      have d3 := below_block (below_block (show ((w.alloc (.cells #[.string ⟨#[]⟩, .string ⟨#[]⟩] 83)).drewN q).heap[w.heap.size]? = _ from b0) hb2) hb3
      have hb03 : Below w.heap.size w w3 := (hba.trans ((show Below (w.alloc (.cells #[.string ⟨#[]⟩, .string ⟨#[]⟩] 83)).heap.size (w.alloc (.cells #[.string ⟨#[]⟩, .string ⟨#[]⟩] 83)) w2 from ⟨hb2.os, hb2.tape, hb2.output, hb2.size, hb2.block⟩).mono (Nat.le_of_lt bl))).trans (hb3.mono (Nat.le_trans (Nat.le_of_lt bl) hb2.size))
      have d3a := below_block d3 ((Below.refl w3.heap.size w3).alloc (Nat.le_refl _) (.cells #[.string n0, .string (trimB v0)] 83))
      have d3b : (w3.alloc (.cells #[.string n0, .string (trimB v0)] 83)).heap[w3.heap.size]? = some (.cells #[.string n0, .string (trimB v0)] 83) := heap_alloc_new w3 _
      have hb03a := hb03.alloc hb03.size (.cells #[.string n0, .string (trimB v0)] 83)
      clear b0 d3 hb2 hb3 hb03 hcut hba
      go_wp2_with (go_at_call 85; refine (implFld (n0, trimB v0) _ (show n0.size ≤ 1048576 by omega) (show (trimB v0).size ≤ 1048576 by omega)).mono ?_; rw [hok]; rintro e w4 ⟨rfl, hb4⟩; have d4 := below_block d3a hb4; have d4b := below_block d3b hb4; have hb04 := hb03a.trans (hb4.mono hb03a.size); obtain ⟨c0, c1, f0, f1⟩ := box_cells d4; obtain ⟨e0, e1, _, _⟩ := box_cells d4b; clear d3a d3b d4 d4b hb4)
      refine bodyPost_ret (v := .tuple #[.agg #[.string ⟨#[]⟩, .string ⟨#[]⟩], .bool false]) (by simp [results, Tryz.results103, go_sem, c0, c1]) rfl ⟨rfl, (hb04.setCell (Nat.le_refl _) _).setCell (Nat.le_refl _) _⟩
    | true =>
      rw [rdF_yes hc hok]
      unfold fldT at hok ⊢
      generalize (⟨a.toArray⟩ : ByteArray) = n0 at hcut hok za ⊢
      generalize (⟨b.toArray⟩ : ByteArray) = v0 at hcut hok zb zt ⊢
      go_enter Tryz.func103, Tryz.ntmps103
      go_wp2_with fail
      refine hcut.mono ?_
      rintro e w1 ⟨rfl, q, rfl⟩
      go_wp2_with fail
      refine (clone n0 _ (by omega)).mono ?_
      rintro e w2 ⟨rfl, hb2⟩
      go_wp2_with fail
      refine (implTrim v0 _ (by omega)).mono ?_
      rintro e w3 ⟨rfl, hb3⟩
      have d3 := below_block (below_block (show ((w.alloc (.cells #[.string ⟨#[]⟩, .string ⟨#[]⟩] 83)).drewN q).heap[w.heap.size]? = _ from b0) hb2) hb3
      have hb03 : Below w.heap.size w w3 := (hba.trans ((show Below (w.alloc (.cells #[.string ⟨#[]⟩, .string ⟨#[]⟩] 83)).heap.size (w.alloc (.cells #[.string ⟨#[]⟩, .string ⟨#[]⟩] 83)) w2 from ⟨hb2.os, hb2.tape, hb2.output, hb2.size, hb2.block⟩).mono (Nat.le_of_lt bl))).trans (hb3.mono (Nat.le_trans (Nat.le_of_lt bl) hb2.size))
      have d3a := below_block d3 ((Below.refl w3.heap.size w3).alloc (Nat.le_refl _) (.cells #[.string n0, .string (trimB v0)] 83))
      have d3b : (w3.alloc (.cells #[.string n0, .string (trimB v0)] 83)).heap[w3.heap.size]? = some (.cells #[.string n0, .string (trimB v0)] 83) := heap_alloc_new w3 _
      have hb03a := hb03.alloc hb03.size (.cells #[.string n0, .string (trimB v0)] 83)
      clear b0 d3 hb2 hb3 hb03 hcut hba
      go_wp2_with (go_at_call 85; refine (implFld (n0, trimB v0) _ (show n0.size ≤ 1048576 by omega) (show (trimB v0).size ≤ 1048576 by omega)).mono ?_; rw [hok]; rintro e w4 ⟨rfl, hb4⟩; have d4 := below_block d3a hb4; have d4b := below_block d3b hb4; have hb04 := hb03a.trans (hb4.mono hb03a.size); obtain ⟨c0, c1, f0, f1⟩ := box_cells d4; obtain ⟨e0, e1, _, _⟩ := box_cells d4b; clear d3a d3b d4 d4b hb4)
      refine bodyPost_ret (v := .tuple #[.agg #[.string n0, .string (trimB v0)], .bool true]) (by simp [results, Tryz.results103, go_sem, c0, c1]) rfl ⟨rfl, (hb04.setCell (Nat.le_refl _) _).setCell (Nat.le_refl _) _⟩
end Go.Proofs.YtemmgfnepdgpbaaGreatDoor
namespace Go.Proofs.YtemmgfnepdgpbaaGreatDoor
open Go.RowKit Go.Sort St
set_option linter.unusedVariables false
set_option linter.unusedSimpArgs false

theorem wpList_pushFS {ops : Array Oper} {rest : List Oper} {o : Oper} {a : Act} {Q : Exit → Act → World → Prop} (w : World) (hgd : o.guard = none) (s x : Operand)
    (ho : o.op = .call { callee := .builtin .append, args := #[s, x], argTypes := #[24, 24] }) (B b : Nat) (hb : b = w.heap.size) (v : Value) (l : List Fl) (f : Fl) (hs : a.eval s = v) (hown : OwnsF w B v l)
    (hx : a.eval x = .slice (some ⟨b, 0, none⟩) 1 1) (hlen : l.length ≤ 1000000000000) (hB : B ≤ w.heap.size)
    (h : ∀ v' w', OwnsF w' B v' (l ++ [f]) → w.grownBy w' v.ownBlock → wpList Tryz.prog ops Q rest (a.put o.dst v') w') :
    wpList Tryz.prog ops Q (o :: rest) a (w.alloc (.cells #[.string f.1, .string f.2] 83)) := by
  subst hb
  exact wpList_pushF w hgd s x ho B v l f hs hown hx hlen hB h
theorem OwnsF.grownS {w w' : World} {B : Nat} {v : Value} {l : List Fl} {r : Option Nat} (h : OwnsF w B v l) (hg : w.grownBy w' r) (hne : ∀ k, v.ownBlock = some k → r ≠ some k) : OwnsF w' B v l := by
  refine World.ownsRow.kept h hg ?_
  cases e : v.ownBlock with
  | none => exact .inl rfl
  | some k => exact .inr (fun e2 => hne k e e2.symm)
theorem rdF_size {x : List UInt8} {f : Fl} (h : rdF x = some f) : f.1.size + f.2.size ≤ x.length := by
  cases hc : colL x with
  | none => rw [rdF_col hc] at h; cases h
  | some p =>
    obtain ⟨a, b⟩ := p
    have hlen := len_app hc
    cases hok : fldOk (fldT a b) with
    | false => rw [rdF_no hc hok] at h; cases h
    | true =>
      rw [rdF_yes hc hok] at h
      injection h with h
      subst h
      have zt := trimB_size ⟨b.toArray⟩
      have za := txt_size a
      have zb := txt_size b
      show (⟨a.toArray⟩ : ByteArray).size + (trimB ⟨b.toArray⟩).size ≤ _
      omega
theorem szL_snoc (l : List Fl) (f : Fl) : szL (l ++ [f]) = szL l + (f.1.size + f.2.size) := by simp [szL, szF]
/-- What the fields answer: the guess, and where the reader stands. -/
structure FdG (w w' : World) (b : Nat) (t : ByteArray) (k n : Nat) (u : Value) (l : List Fl) (k2 : Nat) : Prop where
  has : HasF w' w.heap.size u l
  is : FldG n (t.data.toList.drop k) l (t.data.toList.drop k2)
  le : k2 ≤ t.size
  rd : Sdr w' b t k2
  gr : w.grownBy w' (some b)
  sz : szL l ≤ t.size
  ln : l.length ≤ t.size
/-- The loop's state: j fields are read, the reader stands ahead of q. -/
structure FdI (w wr : World) (b : Nat) (t : ByteArray) (k n : Nat) (u : Value) (l : List Fl) (j q : Nat) : Prop where
  own : OwnsF wr w.heap.size u l
  is : FldI n (t.data.toList.drop k) j l (t.data.toList.drop q)
  le : q ≤ t.size
  rd : Sdr wr b t q
  gr : w.grownBy wr (some b)
  sz : szL l + (t.size - q) ≤ t.size
  ln : l.length + (t.size - q) ≤ t.size
theorem own_lo {wr : World} {B b : Nat} {u : Value} {l : List Fl} (h : OwnsF wr B u l) (hb : b < B) : ∀ k, u.ownBlock = some k → some b ≠ some k := fun k hk e => by
  have := h.from k hk
  injection e with e
  omega
theorem FdI.kept {w wr w' : World} {b : Nat} {t : ByteArray} {k n : Nat} {u : Value} {l : List Fl} {j q : Nat} (h : FdI w wr b t k n u l j q) (hb : Below wr.heap.size wr w') : FdI w w' b t k n u l j q :=
  ⟨h.own.kept hb, h.is, h.le, h.rd.kept hb, grown_belowS h.gr hb, h.sz, h.ln⟩
/-- A line that is none: the guess is no more than it was. -/
theorem FdI.stop {w wr : World} {b : Nat} {t : ByteArray} {k n : Nat} {g c ln : Nat} {l : List Fl} {j q : Nat} (h : FdI w wr b t k n (.slice (some ⟨g, 0, none⟩) ln c) l j q) (he : ln = l.length) (hi : FldG n (t.data.toList.drop k) l (t.data.toList.drop q)) : FdG w wr b t k n (.slice (some ⟨g, 0, none⟩) ln ln) l q :=
  ⟨(h.own).has.cut he, hi, h.le, h.rd, h.gr, by have := h.sz; omega, by have := h.ln; omega⟩
set_option maxRecDepth 100000 in
set_option maxHeartbeats 8000000 in
theorem implFldsS (b : Nat) (t : ByteArray) (k n : Nat) (m : Int) (w : World) (h : Sdr w b t k) (hk : k ≤ t.size) (ht : t.size ≤ 1048576) (hn : n < 1000000000000000) (hm : w.cell? ⟨3, 0, none⟩ = some (.int .i64 m)) (hmb : 3 ≠ b) :
    Calls Tryz.prog 71 #[.pointer (some ⟨b, 0, none⟩), .int .i64 n] w fun e w' => ∃ u l k2, e = .returned u ∧ FdG w w' b t k n u l k2 := by
  have hbw : b < w.heap.size := h.hi
  have hml := cell_lt hm
  have I0 : Hid (FdI w (w.alloc (.cells #[] 83)) b t k n (.slice (some ⟨w.heap.size, 0, none⟩) 0 0) [] 0 k) := (show FdI _ _ _ _ _ _ _ _ _ _ from
    ⟨OwnsF.born w, FldI.start _ _, hk, h.kept ((Below.refl _ w).alloc (Nat.le_refl _) _), grown_belowS (grown_selfS w _) ((Below.refl _ w).alloc (Nat.le_refl _) _), by rw [szL_nil]; omega, by simp⟩)
  clear h
  go_enter Tryz.func71, Tryz.ntmps71
  go_wp2
  go_loopw [5, 12] (fun u i wr => ∃ (j q g c : Nat) (l : List Fl), i = .int .i64 j ∧ j ≤ n ∧ u = .slice (some ⟨g, 0, none⟩) l.length c ∧ l.length ≤ c ∧ Hid (FdI w wr b t k n (.slice (some ⟨g, 0, none⟩) l.length c) l j q)) (fun _ i _ => n - (intOf i).toNat)
  case atStart => exact ⟨0, k, w.heap.size, 0, [], rfl, Nat.zero_le _, rfl, Nat.le_refl _, I0⟩
  case round =>
    obtain ⟨j, q, g, c, l, rfl, hj, rfl, hc, hI⟩ := hrel
    clear I0
    have hq := hI.out.le
    have hrm := fun w => implRoom g l.length c w hc
    by_cases hlt : j < n
    · have hji : (j : Int) < (n : Int) := by omega
      have hmr := hI.out.gr.cell hm (fun e => hmb (by injection e))
      have hbr : wr.heap.size ≥ w.heap.size := hI.out.gr.size
      cases hl : lnC (t.data.toList.drop q) with
      | none =>
        have HG : Hid (FldG n (t.data.toList.drop k) l (t.data.toList.drop q)) := hI.out.is.bad hlt (fun x r hx => by rw [hl] at hx; cases hx) _ _
        have hln := implLine_noS b t q m wr hI.out.rd hq ht hmr hl
        have hrf := fun w hm => implRdF ⟨#[]⟩ m w hm (by decide)
        rw [show rdF (⟨#[]⟩ : ByteArray).data.toList = none from rfl] at hrf
        unfold rdFE at hrf
        clear hl
        go_wp2_with fail
        refine hln.mono ?_
        rintro e w1 ⟨rfl, hb1⟩
        go_wp2_with fail
        refine (hrf w1 ((hb1.cell (p := ⟨3, 0, none⟩) (Nat.lt_of_lt_of_le hml hbr)).trans hmr)).mono ?_
        rintro e w2 ⟨rfl, hb2⟩
        have I2 : Hid (FdI w (w2.alloc (.cells #[.string ⟨#[]⟩, .string ⟨#[]⟩] 83)) b t k n (.slice (some ⟨g, 0, none⟩) l.length c) l j q) := (hI.out.kept hb1 |>.kept hb2 |>.kept ((Below.refl _ w2).alloc (Nat.le_refl _) _))
        clear hI hb1 hb2
        go_wp2_with (go_at_call 104; refine (hrm _).mono ?_; rintro e w3 ⟨rfl, rfl⟩)
        go_ret
        exact ⟨_, l, q, rfl, I2.out.stop rfl HG.out⟩
      | some p =>
        obtain ⟨x, r⟩ := p
        have hlen := congrArg List.length (lnC_length hl)
        rw [rest_lenS] at hlen
        simp only [List.length_append, List.length_cons, List.length_nil] at hlen
        have hr : r = t.data.toList.drop (q + (x.length + 2)) := by
          rw [← List.drop_drop, lnC_length hl, show x.length + 2 = (x ++ [13, 10]).length by simp, List.drop_left]
        have hln := implLine_yesS b t q m x r wr hI.out.rd hq ht hmr hl
        have hrf := fun w hm => implRdF (txtL x) m w hm (by rw [txt_len]; omega)
        rw [show (txtL x).data.toList = x from rfl] at hrf
        cases hf : rdF x with
        | none =>
          have HG : Hid (FldG n (t.data.toList.drop k) l (t.data.toList.drop (q + (x.length + 2)))) := hI.out.is.bad hlt (fun y s hy => by
            rw [hl] at hy
            simp only [Option.some.injEq, Prod.mk.injEq] at hy
            obtain ⟨rfl, rfl⟩ := hy
            exact hf) _ _
          rw [hf] at hrf
          unfold rdFE at hrf
          generalize txtL x = X at hln hrf
          have HS : Hid (∀ w', wr.grownBy w' (some b) → Sdr w' b t (q + (x.length + 2)) → FdG w w' b t k n (.slice (some ⟨g, 0, none⟩) l.length l.length) l (q + (x.length + 2))) := (show ∀ _, _ from fun w' hg hs =>
            ⟨((hI.out.own.grownS hg (own_lo hI.out.own hbw)).has).cut rfl, HG.out, by omega, hs, hI.out.gr.trans hg, by have := hI.out.sz; omega, by have := hI.out.ln; omega⟩)
          clear hl hI HG hr
          go_wp2_with fail
          refine hln.mono ?_
          rintro e w1 ⟨rfl, hs1, hg1⟩
          go_wp2_with fail
          refine (hrf w1 (hg1.cell hmr (fun e => hmb (by injection e)))).mono ?_
          rintro e w2 ⟨rfl, hb2⟩
          have S2 : Hid (Sdr (w2.alloc (.cells #[.string ⟨#[]⟩, .string ⟨#[]⟩] 83)) b t (q + (x.length + 2))) := (hs1.kept hb2).kept ((Below.refl _ w2).alloc (Nat.le_refl _) _)
          have G2 : Hid (wr.grownBy (w2.alloc (.cells #[.string ⟨#[]⟩, .string ⟨#[]⟩] 83)) (some b)) := grown_belowS (grown_belowS hg1 hb2) ((Below.refl _ w2).alloc (Nat.le_refl _) _)
          clear hs1 hg1 hb2
          go_wp2_with (go_at_call 104; refine (hrm _).mono ?_; rintro e w3 ⟨rfl, rfl⟩)
          go_ret
          exact ⟨_, l, _, rfl, HS.out _ G2.out S2.out⟩
        | some f =>
          have HN : Hid (FldI n (t.data.toList.drop k) (j + 1) (l ++ [f]) (t.data.toList.drop (q + (x.length + 2)))) := by
            have := hI.out.is.next hlt hl hf
            rw [hr] at this
            exact this
          have hfs := rdF_size hf
          rw [hf] at hrf
          unfold rdFE at hrf
          generalize txtL x = X at hln hrf
          have hsz := hI.out.sz
          have hlm := hI.out.ln
          clear hl hf hr
          go_wp2_with fail
          refine hln.mono ?_
          rintro e w1 ⟨rfl, hs1, hg1⟩
          have ho1 := hI.out.own.grownS hg1 (own_lo hI.out.own hbw)
          have G1 : Hid (w.grownBy w1 (some b)) := hI.out.gr.trans hg1
          go_wp2_with fail
          refine (hrf w1 (hg1.cell hmr (fun e => hmb (by injection e)))).mono ?_
          rintro e w2 ⟨rfl, hb2⟩
          have S2 : Hid (Sdr (w2.alloc (.cells #[.string f.1, .string f.2] 83)) b t (q + (x.length + 2))) := (hs1.kept hb2).kept ((Below.refl _ w2).alloc (Nat.le_refl _) _)
          have G2 : Hid (w.grownBy (w2.alloc (.cells #[.string f.1, .string f.2] 83)) (some b)) := grown_belowS (grown_belowS G1.out hb2) ((Below.refl _ w2).alloc (Nat.le_refl _) _)
          have ho2 := (ho1.kept hb2).alloc (.cells #[.string f.1, .string f.2] 83)
          have hwz : w.heap.size ≤ (w2.alloc (.cells #[.string f.1, .string f.2] 83)).heap.size := G2.out.size
          clear hs1 hg1 ho1 hb2 G1 hI
          go_wp2_with (at_builtin; refine wpList_pushFS _ rfl (.tmp 28) (.tmp 30) rfl w.heap.size (w2.heap.size + 1) (by simp) _ _ f rfl ho2 rfl (by omega) hwz ?_; intro v4 w4 ho4 hg4)
          have S4 : Hid (Sdr w4 b t (q + (x.length + 2))) := S2.out.grown hg4 (fun e => own_lo ho2 hbw b e rfl)
          have G4 : Hid (w.grownBy w4 (some b)) := (show w.grownBy w4 (some b) from ⟨hg4.os.trans G2.out.os, hg4.tape.trans G2.out.tape, hg4.output.trans G2.out.output, Nat.le_trans G2.out.size hg4.size, fun i hi hne => (hg4.block i (Nat.lt_of_lt_of_le hi G2.out.size) (fun e => by have := ho2.from i e.symm; omega)).trans (G2.out.block i hi hne)⟩)
          obtain ⟨g4, c4, rfl, hc4, hm4⟩ := ho4.solid (by simp)
          clear ho2 hg4 S2 G2 hln hrf
          go_roundw
          case rel => exact ⟨j + 1, q + (x.length + 2), g4, c4, l ++ [f], by go_num, by omega, rfl, hc4, (show FdI _ _ _ _ _ _ _ _ _ _ from ⟨ho4, HN.out, by omega, S4.out, G4.out, by rw [szL_snoc]; omega, by simp; omega⟩)⟩
          case measure => simp [intOf]; omega
    · obtain rfl : j = n := by omega
      go_wp2_with (go_at_call 104; refine (hrm _).mono ?_; rintro e w3 ⟨rfl, rfl⟩)
      go_ret
      exact ⟨_, l, q, rfl, hI.out.stop rfl hI.out.is.done⟩
end Go.Proofs.YtemmgfnepdgpbaaGreatDoor
namespace Go.Proofs.YtemmgfnepdgpbaaGreatDoor
open Go.RowKit

set_option maxHeartbeats 1000000 in
theorem specGetN (v : Value) (l : List Fl) (n : ByteArray) (w : World) (h : Fls w v l) (hz : szL l ≤ 1048576) (hl : l.length ≤ 1048576) (hn : n.size ≤ 1048576) :
    Calls Tryz.prog 96 #[v, .string n] w fun e w' => e = .returned (getE (getF l n)) ∧ Below w.heap.size w w' := by
  obtain ⟨a, cap, rfl, h1, h2, h3⟩ := h
  unfold maxLen at h2
  have hnm : n.size ≤ maxLen := by unfold maxLen; omega
  go_enter Tryz.func96, Tryz.ntmps96
  go_wp2
  go_loopw [6, 7, 8] (fun s b i wr => ∃ (k : Nat) (x : ByteArray) (fd : Bool), k ≤ l.length ∧ i = .int .i64 k ∧ s = .string x ∧ b = .bool fd ∧ x.size ≤ szL (l.take k) + 2 * k ∧ Hid (getF (l.take k) n = (x, fd)) ∧ Below w.heap.size w wr) (fun _ _ i _ => l.length - (intOf i).toNat)
  case atStart => exact ⟨0, ⟨#[]⟩, false, Nat.zero_le _, rfl, rfl, rfl, Nat.zero_le _, rfl, Below.refl _ _⟩
  case round =>
    obtain ⟨k, x, fd, hk, rfl, rfl, rfl, hxs, hget, hb⟩ := hrel
    by_cases hlt : k < l.length
    · obtain ⟨g, o, rfl, hg, hc⟩ := h3 (by omega)
      have c1 := (hb.cell (p := ⟨g, o + k * 2, none⟩) hg).trans (hc k hlt).1
      have c2 := (hb.cell (p := ⟨g, o + k * 2 + 1, none⟩) hg).trans (hc k hlt).2
      have hsz := szL_at hlt
      have hst := szL_take l k
      have hsn := szL_next hlt
      have hnx := getF_next n hlt
      rw [hget.out] at hnx
      generalize l[k] = f at c1 c2 hsz hnx hsn
      have HSN : Hid _ := hsn
      have HST : Hid _ := hst
      have zx : x.size ≤ 3145728 := by omega
      have zf : f.1.size ≤ 1048576 ∧ f.2.size ≤ 1048576 := by omega
      obtain ⟨zf1, zf2⟩ := zf
      clear hsn hst
      have hgr : g < wr.heap.size := Nat.lt_of_lt_of_le hg hb.size
      have z1 : f.1.size ≤ maxLen := by unfold maxLen; omega
      clear hc h3
      by_cases he : lowS f.1 = lowS n
      · have hq := same_yes he
        cases fd with
        | false =>
          rw [gStep_first he] at hnx
          have HN : Hid (getF (l.take (k + 1)) n = (x ++ f.2, true)) := hnx
          clear hnx he
          go_wp2_with fail
          refine (specLow _ _ z1).mono ?_
          rintro e w1 ⟨rfl, hb1⟩
          have d2 := (hb1.cell (p := ⟨g, o + k * 2 + 1, none⟩) hgr).trans c2
          go_wp2_with fail
          refine (specLow _ _ hnm).mono ?_
          rintro e w2 ⟨rfl, hb2⟩
          have e2 := (hb2.cell (p := ⟨g, o + k * 2 + 1, none⟩) (Nat.lt_of_lt_of_le hgr hb1.size)).trans d2
          have hb02 : Below w.heap.size w w2 := (hb.trans (hb1.mono hb.size)).trans (hb2.mono (Nat.le_trans hb.size hb1.size))
          clear c1 c2 d2 hb hb1 hb2
          go_wp2
          go_roundw
          case rel => exact ⟨k + 1, _, true, by omega, by go_num, rfl, rfl, by have hsn := HSN.out; rw [ByteArray.size_append]; omega, HN, hb02⟩
          case measure => simp [intOf]; omega
        | true =>
          rw [gStep_more he] at hnx
          have HN : Hid (getF (l.take (k + 1)) n = (x ++ ⟨#[44, 32]⟩ ++ f.2, true)) := hnx
          clear hnx he
          have zz : (x ++ (⟨#[44, 32]⟩ : ByteArray)).size = x.size + 2 := by rw [ByteArray.size_append]; rfl
          go_wp2_with fail
          refine (specLow _ _ z1).mono ?_
          rintro e w1 ⟨rfl, hb1⟩
          have d2 := (hb1.cell (p := ⟨g, o + k * 2 + 1, none⟩) hgr).trans c2
          go_wp2_with fail
          refine (specLow _ _ hnm).mono ?_
          rintro e w2 ⟨rfl, hb2⟩
          have e2 := (hb2.cell (p := ⟨g, o + k * 2 + 1, none⟩) (Nat.lt_of_lt_of_le hgr hb1.size)).trans d2
          have hb02 : Below w.heap.size w w2 := (hb.trans (hb1.mono hb.size)).trans (hb2.mono (Nat.le_trans hb.size hb1.size))
          clear c1 c2 d2 hb hb1 hb2
          go_wp2
          go_roundw
          case rel => exact ⟨k + 1, _, true, by omega, by go_num, rfl, rfl, by have hsn := HSN.out; rw [ByteArray.size_append, zz]; omega, HN, hb02⟩
          case measure => simp [intOf]; omega
      · have hq := same_no he
        rw [gStep_no he] at hnx
        have HN : Hid (getF (l.take (k + 1)) n = (x, fd)) := hnx
        clear hnx he
        go_wp2_with fail
        refine (specLow _ _ z1).mono ?_
        rintro e w1 ⟨rfl, hb1⟩
        go_wp2_with fail
        refine (specLow _ _ hnm).mono ?_
        rintro e w2 ⟨rfl, hb2⟩
        have hb02 : Below w.heap.size w w2 := (hb.trans (hb1.mono hb.size)).trans (hb2.mono (Nat.le_trans hb.size hb1.size))
        clear c1 c2 hb hb1 hb2
        go_wp2
        go_roundw
        case rel => exact ⟨k + 1, _, fd, by omega, by go_num, rfl, rfl, by have hsn := HSN.out; omega, HN, hb02⟩
        case measure => simp [intOf]; omega
    · have HN : Hid ((x, fd) = getF l n) := by rw [← getF_end n hlt]; exact hget.out.symm
      go_wp2
      go_ret2
      exact ⟨ret_get HN.out, hb⟩

end Go.Proofs.YtemmgfnepdgpbaaGreatDoor
namespace Go.Proofs.YtemmgfnepdgpbaaGreatDoor
open Go.RowKit
set_option linter.unusedVariables false

/-- What a walk is told of fields that came in. -/
def Solid (v : Value) : Prop := ∀ n c, v = .slice none n c → c = 0
def Fits (w : World) (v : Value) (l : List Fl) : Prop := Fls w v l ∧ szL l ≤ 1048576 ∧ l.length ≤ 1048576 ∧ Solid v
theorem Fits.kept {w w' : World} {v : Value} {l : List Fl} (h : Fits w v l) (hb : Below w.heap.size w w') : Fits w' v l := ⟨h.1.kept hb, h.2⟩
theorem past6 {w w1 w2 : World} (h : Below w.heap.size w w1) (hb : Below w1.heap.size w1 w2) : Below w.heap.size w w2 := h.trans (hb.mono h.size)

theorem specOwn (v : Value) (l : List Fl) (w : World) (h : Fits w v l) :
    Calls Tryz.prog 67 #[v] w fun e w' => e = .returned (.bool (ownB l)) ∧ Below w.heap.size w w' := by
  have hg1 := specGetN v l clS w h.1 h.2.1 h.2.2.1 (by decide)
  have hz := h.2.1
  have hl := h.2.2.1
  unfold getE at hg1
  obtain ⟨a, cap, rfl, hcap⟩ := h.1
  have HF : Hid (Fits w (.slice a l.length cap) l) := h
  clear h hcap
  have ho : Hid (ownB l = (fldsOk l && (!(getF l clS).2 && !(getF l teS).2))) := rfl
  obtain ⟨x, p, hx⟩ : ∃ x p, getF l clS = (x, p) := ⟨_, _, rfl⟩
  obtain ⟨y, q, hy⟩ : ∃ y q, getF l teS = (y, q) := ⟨_, _, rfl⟩
  have hg2 : ∀ w, Fits w (.slice a l.length cap) l → Calls Tryz.prog 96 #[.slice a l.length cap, .string teS] w fun e w' => e = .returned (.tuple #[.string y, .bool q]) ∧ Below w.heap.size w w' := fun w h => by
    have := specGetN _ l teS w h.1 h.2.1 h.2.2.1 (by decide)
    unfold getE at this
    rw [hy] at this
    exact this
  rw [hx] at hg1
  have HO : Hid (ownB l = (fldsOk l && (!p && !q))) := by have := ho.out; rw [hx, hy] at this; exact this
  clear hx hy ho
  have hg3 : Hid (∀ w, Fits w (.slice a l.length cap) l → Calls Tryz.prog 96 #[.slice a l.length cap, .string teS] w fun e w' => e = .returned (.tuple #[.string y, .bool q]) ∧ Below w.heap.size w w') := hg2
  clear hg2
  unfold clS at hg1
  unfold teS at hg3
  go_enter Tryz.func67, Tryz.ntmps67
  go_wp2_with fail
  refine hg1.mono ?_
  rintro e w1 ⟨rfl, hb1⟩
  have HF1 : Hid (Fits w1 (.slice a l.length cap) l) := HF.out.kept hb1
  clear hg1
  go_wp2_with fail
  refine (hg3.out _ HF1.out).mono ?_
  rintro e w2 ⟨rfl, hb2'⟩
  have hb2 := past6 hb1 hb2'
  have HF2 : Hid (Fits w2 (.slice a l.length cap) l) := HF1.out.kept hb2'
  clear hb1 hb2' hg3
  go_wp2_with fail
  refine (specOk _ l _ HF2.out.1 hz).mono ?_
  rintro e w3 ⟨rfl, hb3'⟩
  have hb3 := past6 hb2 hb3'
  clear hb3' hb2
  cases ok : fldsOk l with
  | false =>
    rw [ok] at HO
    have H0 : Hid (false = ownB l) := by rw [HO.out]; rfl
    clear HO
    go_wp2
    go_ret
    exact ⟨ret_bool H0.out, hb3⟩
  | true =>
    rw [ok] at HO
    cases p with
    | true =>
      have H0 : Hid (false = ownB l) := by rw [HO.out]; rfl
      clear HO
      go_wp2
      go_ret
      exact ⟨ret_bool H0.out, hb3⟩
    | false =>
      cases q with
      | true =>
        have H0 : Hid (false = ownB l) := by rw [HO.out]; rfl
        clear HO
        go_wp2
        go_ret
        exact ⟨ret_bool H0.out, hb3⟩
      | false =>
        have H0 : Hid (true = ownB l) := by rw [HO.out]; rfl
        clear HO
        go_wp2
        go_ret
        exact ⟨ret_bool H0.out, hb3⟩
theorem specBare (s : Int) (w : World) :
    Calls Tryz.prog 68 #[.int .i64 s] w fun e w' => e = .returned (.bool (bareB s)) ∧ w = w' := by
  by_cases h1 : s = 204
  · subst h1
    have H0 : Hid (true = bareB 204) := rfl
    go_enter Tryz.func68, Tryz.ntmps68
    go_wp2
    go_ret
    exact ⟨ret_bool H0.out, rfl⟩
  · have d1 : (s == 204) = false := by simp [h1]
    by_cases h2 : s = 304
    · subst h2
      have H0 : Hid (true = bareB 304) := rfl
      go_enter Tryz.func68, Tryz.ntmps68
      go_wp2
      go_ret
      exact ⟨ret_bool H0.out, rfl⟩
    · have d2 : (s == 304) = false := by simp [h2]
      have H0 : Hid (false = bareB s) := by show false = bareB s; unfold bareB; simp [h1, h2]
      go_enter Tryz.func68, Tryz.ntmps68
      go_wp2
      go_ret
      exact ⟨ret_bool H0.out, rfl⟩
end Go.Proofs.YtemmgfnepdgpbaaGreatDoor
