/-
  The contract of the program's Selecting.
  Objects as plain data: what is a right one.
  A request and a response by value; the specification's RequestOk, ResponseOk and Framing by their contracts.
-/
import Derived.Test.YtnachhmhjodbhaaGreatDoorG19
import Derived.Test.YtnachhmhjodbhaaGreatDoorG24
import Derived.Test.YtnachhmhjodbhaaGreatDoorG06
import Derived.Test.YtnachhmhjodbhaaGreatDoorG20
import Derived.Lib.AppendStr
import Derived.Test.YtnachhmhjodbhaaGreatDoorG23
namespace Go.Proofs.YtnachhmhjodbhaaGreatDoor
open Go.RowKit Go.Sort Go.Shelf
set_option linter.unusedVariables false
set_option linter.unusedSimpArgs false

attribute [local go_sem] Oper.semAt_some

/-- The bytes of a text appended to an owned row, in a round. -/
theorem wpListIn_pushStr {F : Fence} {n' : Nat} {ops : Array Oper} {rest : List Oper} {o : Oper} {a : Act} {Q : Exit → Act → World → Prop} (w : World) (hgd : o.guard = none) (s x : Operand)
    (ho : o.op = .call { callee := .builtin .append, args := #[s, x], argTypes := #[22, 9] }) (B : Nat) (v : Value) (l : List UInt8) (t : ByteArray) (hs : a.eval s = v) (hown : OwnsB w B v l)
    (hx : a.eval x = .string t) (hlen : l.length + t.size ≤ 1000000) (hB : B ≤ w.heap.size)
    (h : ∀ v' w', OwnsB w' B v' (l ++ t.data.toList) → w.grownBy w' v.ownBlock → wpListIn F n' Tryz.prog ops Q rest (a.put o.dst v') w') :
    wpListIn F n' Tryz.prog ops Q (o :: rest) a w := by
  refine wpListIn_plain hgd fun K hK => ?_
  obtain ⟨i0, hi, hz0, hz1, hz2⟩ := info_parts Tryz.info5
  obtain ⟨v', w', hr, h2, h3, h4⟩ := Lib.run_append_own_string (P := Tryz.prog) w B 22 9 o.type 5 i0 Tryz.underlying22 Tryz.underlying9 hi hz0 hz1 hz2 v l.length (bytesV l) hown t (by unfold maxLen; omega) (by omega) hB
  have h2' : OwnsB w' B v' (l ++ t.data.toList) := by
    unfold OwnsB
    have e : bytesV (l ++ t.data.toList) = bytesV l ++ Lib.strCells t := by
      unfold bytesV Lib.strCells
      rw [List.map_append]
    rw [e, List.length_append, show t.data.toList.length = t.size from by simp]
    exact h2
  unfold Oper.wpIn
  refine ⟨?_, ?_⟩
  · simp [Oper.about, ho, resolve, Target.leads, Sem.run_pure]
  · rw [Oper.semAt_plain F _ _ (by rw [ho]; intro c hc'; cases hc')]
    simp [execOp, ho, resolve, invoke, builtin, hs, hx, hr, Result.andThen]
    exact hK _ _ (h v' w' h2' h3)
/-- .. as one step of a region that draws its order. -/
theorem stepIn_pushStr {F : Fence} {n' : Nat} {ops : Array Oper} {o : Oper} {a : Act} {K : Act → World → Prop} {Q : Exit → Act → World → Prop} {E : Prop} (w : World) (hgd : o.guard = none) (s x : Operand)
    (ho : o.op = .call { callee := .builtin .append, args := #[s, x], argTypes := #[22, 9] }) (B : Nat) (v : Value) (l : List UInt8) (t : ByteArray) (hs : a.eval s = v) (hown : OwnsB w B v l)
    (hx : a.eval x = .string t) (hlen : l.length + t.size ≤ 1000000) (hB : B ≤ w.heap.size)
    (h : ∀ v' w', OwnsB w' B v' (l ++ t.data.toList) → w.grownBy w' v.ownBlock → K (a.put o.dst v') w') :
    if Region.wanted o (yielded ops a.tmps) = true then Oper.wpIn F n' Tryz.prog o a w K Q else E := by
  have hw : Region.wanted o (yielded ops a.tmps) = true := by simp [Region.wanted, hgd]
  rw [if_pos hw]
  obtain ⟨i0, hi, hz0, hz1, hz2⟩ := info_parts Tryz.info5
  obtain ⟨v', w', hr, h2, h3, h4⟩ := Lib.run_append_own_string (P := Tryz.prog) w B 22 9 o.type 5 i0 Tryz.underlying22 Tryz.underlying9 hi hz0 hz1 hz2 v l.length (bytesV l) hown t (by unfold maxLen; omega) (by omega) hB
  have h2' : OwnsB w' B v' (l ++ t.data.toList) := by
    unfold OwnsB
    have e : bytesV (l ++ t.data.toList) = bytesV l ++ Lib.strCells t := by
      unfold bytesV Lib.strCells
      rw [List.map_append]
    rw [e, List.length_append, show t.data.toList.length = t.size from by simp]
    exact h2
  unfold Oper.wpIn
  refine ⟨?_, ?_⟩
  · simp [Oper.about, ho, resolve, Target.leads, Sem.run_pure]
  · rw [Oper.semAt_plain F _ _ (by rw [ho]; intro c hc'; cases hc')]
    simp [execOp, ho, resolve, invoke, builtin, hs, hx, hr, Result.andThen]
    exact h v' w' h2' h3
/-- One byte appended to an owned row, in a round. -/
theorem wpListIn_pushB {F : Fence} {n' : Nat} {ops : Array Oper} {rest : List Oper} {o : Oper} {a : Act} {Q : Exit → Act → World → Prop} (w : World) (gg : Nat) (hgg : gg = w.heap.size) (hgd : o.guard = none) (s x : Operand)
    (ho : o.op = .call { callee := .builtin .append, args := #[s, x], argTypes := #[22, 22] }) (B : Nat) (v : Value) (l : List UInt8) (z : Int) (c : UInt8) (hz : z = (c.toNat : Int)) (hs : a.eval s = v) (hown : OwnsB w B v l)
    (hx : a.eval x = .slice (some ⟨gg, 0, none⟩) 1 1) (hlen : l.length ≤ 1000000) (hB : B ≤ w.heap.size)
    (h : ∀ v' w', OwnsB w' B v' (l ++ [c]) → w.grownBy w' v.ownBlock → wpListIn F n' Tryz.prog ops Q rest (a.put o.dst v') w') :
    wpListIn F n' Tryz.prog ops Q (o :: rest) a (w.alloc (.cells #[.int .u8 z] 5)) := by
  subst hz
  subst hgg
  obtain ⟨i0, hi, hz0, hz1, hz2⟩ := info_parts Tryz.info5
  refine wpListIn_append_own _ hgd s x 22 ho B 5 i0 (.int .u8 0) 1 1 Tryz.underlying22 hi hz0 hz1 hz2 rfl (by decide) v l.length (bytesV l) hs (OwnsB.alloc hown _) ⟨w.heap.size, 0, none⟩ 1 1 [.int .u8 (c.toNat : Int)] hx rfl (cell_one_new _ _ _)
    (by intro u hu; simp at hu; subst hu; rfl) (by unfold maxLen; omega) (by omega) (by simp; omega) ?_
  intro v' w' h1 h2 h3
  refine h v' w' ?_ ⟨h2.os, h2.tape, h2.output, ?_, ?_⟩
  · unfold OwnsB
    rw [bytesV_snoc, List.length_append]
    exact h1
  · have := h2.size
    simp at this
    omega
  · intro k hk hne
    rw [h2.block k (by simp; omega) hne]
    exact Below.heap_alloc _ _ _ hk

theorem others_below {W W' : World} (h : Below W.heap.size W W') : KeepsOthers W W' := ⟨h.size, fun k o hk _ => by rw [h.block k (Array.getElem?_eq_some_iff.1 hk).1]; exact hk⟩
theorem boxB {W W' : World} {B : Nat} {t : TypeId} {v : Value} (h : Boxed W B t v) (hb : Below W.heap.size W W') : Boxed W' B t v := (hb.block B h.lt).trans h

/-- What lies between two rounds: the text so far in its box, the fields, what is to be answered. -/
structure SelAt (w : World) (va : Value) (S : Nat) (W : World) (v : Value) (bs : List UInt8) : Prop where
  box : Boxed W S 22 v
  own : OwnsB W w.heap.size v bs
  asks : Boxed W w.heap.size 24 va
  txt : Boxed W (w.heap.size + 1) 9 (.string ⟨#[]⟩)
  tru : Boxed W (w.heap.size + 1 + 1) 4 (.bool false)
  far : w.heap.size + 1 + 1 < S
  low : Below w.heap.size w W
theorem SelAt.call {w : World} {va : Value} {S : Nat} {W W' : World} {v : Value} {bs : List UInt8} (h : SelAt w va S W v bs) (hb : Below W.heap.size W W') : SelAt w va S W' v bs :=
  ⟨boxB h.box hb, h.own.kept hb, boxB h.asks hb, boxB h.txt hb, boxB h.tru hb, h.far, h.low.trans (hb.mono h.low.size)⟩
/-- A box is not the row of bytes. -/
theorem boxN {W : World} {B n : Nat} {t : TypeId} {u v : Value} {l : List UInt8} (h : Boxed W B t u) (ht : t ≠ 5) (ho : OwnsB W n v l) : some B ≠ v.ownBlock := h.not_row ht ho
theorem SelAt.push {w : World} {va : Value} {S : Nat} {W w1 : World} {v v' : Value} {bs bs' : List UInt8} (h : SelAt w va S W v bs) (ho : OwnsB w1 w.heap.size v' bs') (hg : W.grownBy w1 v.ownBlock) :
    (w1.cell? ⟨S, 0, none⟩ = some v ∧ w1.frozen? ⟨S, 0, none⟩ = false) ∧ SelAt w va S (w1.setCell ⟨S, 0, none⟩ v') v' bs' ∧ KeepsOthers W (w1.setCell ⟨S, 0, none⟩ v') ∧ KeepN W (w1.setCell ⟨S, 0, none⟩ v') := by
  have hb1 : Boxed w1 S 22 v := h.box.kept hg (boxN h.box (by decide) h.own)
  have ha1 : Boxed w1 w.heap.size 24 va := h.asks.kept hg (boxN h.asks (by decide) h.own)
  have ht1 : Boxed w1 (w.heap.size + 1) 9 (.string ⟨#[]⟩) := h.txt.kept hg (boxN h.txt (by decide) h.own)
  have hr1 : Boxed w1 (w.heap.size + 1 + 1) 4 (.bool false) := h.tru.kept hg (boxN h.tru (by decide) h.own)
  have hf := h.far
  have ko : KeepsOthers W w1 := KeepsOthers.of_grownBy hg fun j o ej hj => by
    rcases h.own.2 with ⟨rfl, _⟩ | ⟨g, cap, cur, rfl, _, hgb, _⟩
    · simp [Value.ownBlock] at ej
    · obtain rfl : g = j := by simpa [Value.ownBlock] using ej
      rw [hgb] at hj; cases hj; rfl
  have kn : KeepN W w1 := KeepN.grown hg fun k ek vs fz hk => by
    rcases h.own.2 with ⟨rfl, _⟩ | ⟨g, cap, cur, rfl, _, hgb, _⟩
    · simp [Value.ownBlock] at ek
    · obtain rfl : g = k := by simpa [Value.ownBlock] using ek
      rw [hgb] at hk
      injection hk with hk
      injection hk with _ e _
      exact absurd e (by decide)
  have kn2 : KeepN w1 (w1.setCell ⟨S, 0, none⟩ v') := KeepN.grown (grownBy_setCell' w1 S v') fun k ek vs fz hk => by
    cases ek
    rw [show w1.heap[S]? = _ from hb1] at hk
    injection hk with hk
    injection hk with _ e _
    exact absurd e (by decide)
  refine ⟨⟨hb1.cell, hb1.frozen⟩, ⟨hb1.set v', ?_, ha1.other (by omega) v', ht1.other (by omega) v', hr1.other (by omega) v', hf, ?_⟩, ko.trans (KeepsOthers.setCell _ _ _), kn.trans kn2⟩
  · exact World.ownsRow.kept ho (grownBy_setCell' w1 S v') (.inr (boxN hb1 (by decide) ho).symm)
  · exact (h.low.grown hg h.low.size (fun k ek => OwnsB.from h.own k ek)).setCell (p := ⟨S, 0, none⟩) (by show w.heap.size ≤ S; omega) v'
theorem SelAt.leave {w : World} {va : Value} {S : Nat} {W : World} {v : Value} {bs : List UInt8} (h : SelAt w va S W v bs) :
    KeepsOthers W ((W.setCell ⟨w.heap.size + 1, 0, none⟩ (.string ⟨#[]⟩)).setCell ⟨w.heap.size + 1 + 1, 0, none⟩ (.bool false)) ∧
    Boxed ((W.setCell ⟨w.heap.size + 1, 0, none⟩ (.string ⟨#[]⟩)).setCell ⟨w.heap.size + 1 + 1, 0, none⟩ (.bool false)) (w.heap.size + 1) 9 (.string ⟨#[]⟩) ∧
    Boxed ((W.setCell ⟨w.heap.size + 1, 0, none⟩ (.string ⟨#[]⟩)).setCell ⟨w.heap.size + 1 + 1, 0, none⟩ (.bool false)) (w.heap.size + 1 + 1) 4 (.bool false) ∧
    Below w.heap.size w ((W.setCell ⟨w.heap.size + 1, 0, none⟩ (.string ⟨#[]⟩)).setCell ⟨w.heap.size + 1 + 1, 0, none⟩ (.bool false)) :=
  ⟨(KeepsOthers.setCell _ _ _).trans (KeepsOthers.setCell _ _ _), (h.txt.set _).other (by omega) _, (h.tru.other (by omega) _).set _, (h.low.setCell (p := ⟨w.heap.size + 1, 0, none⟩) (by show w.heap.size ≤ w.heap.size + 1; omega) _).setCell (p := ⟨w.heap.size + 1 + 1, 0, none⟩) (by show w.heap.size ≤ w.heap.size + 1 + 1; omega) _⟩
theorem SelAt.any_form {w : World} {B : Nat} {v : Value} {l : List UInt8} (h : OwnsB w B v l) : ∃ a n cap, v = .slice a n cap := by
  rcases h.2 with ⟨rfl, h0⟩ | ⟨g, cap, cur, rfl, _⟩
  · exact ⟨none, 0, 0, rfl⟩
  · exact ⟨_, _, cap, rfl⟩
theorem SelAt.drew {w : World} {va : Value} {S : Nat} {W : World} {v : Value} {bs : List UInt8} (h : SelAt w va S W v bs) : SelAt w va S W.drew v bs :=
  ⟨h.box, h.own, h.asks, h.txt, h.tru, h.far, ⟨h.low.os, h.low.tape, h.low.output, h.low.size, h.low.block⟩⟩
theorem SelAt.own_form {w : World} {B : Nat} {v : Value} {l : List UInt8} (h : OwnsB w B v l) : ∃ a cap, v = .slice a l.length cap := by
  rcases h.2 with ⟨rfl, h0⟩ | ⟨g, cap, cur, rfl, _⟩
  · exact ⟨none, 0, by rw [h0]⟩
  · exact ⟨_, cap, rfl⟩

set_option maxRecDepth 100000 in
set_option maxHeartbeats 4000000 in
theorem implSel (vary : ByteArray) (v : Value) (l : List Fl) (w : World) (h : Fits w v l) (hs : vary.size ≤ maxLen) :
    Calls Tryz.prog 8 #[.string vary, v] w fun e w' => e = .returned (selE (selI vary l)) ∧ Below w.heap.size w w' := by
  obtain ⟨a, cap, rfl⟩ : ∃ a cap, v = .slice a l.length cap := by
    obtain ⟨a, cap, h1, _⟩ := h.1
    exact ⟨a, cap, h1⟩
  obtain ⟨va, hva⟩ : ∃ va : Value, va = .slice a l.length cap := ⟨_, rfl⟩
  have b0 := Boxed.new w 24 (.slice a l.length cap)
  have b1 := Boxed.new (w.alloc (.cells #[.slice a l.length cap] 24)) 9 (.string ⟨#[]⟩)
  have b2 := Boxed.new ((w.alloc (.cells #[.slice a l.length cap] 24)).alloc (.cells #[.string ⟨#[]⟩] 9)) 4 (.bool false)
  simp only [World.size_alloc] at b1 b2
  have hB3 : Hid (Below w.heap.size w (((w.alloc (.cells #[.slice a l.length cap] 24)).alloc (.cells #[.string ⟨#[]⟩] 9)).alloc (.cells #[.bool false] 4))) := (((Below.refl _ w).alloc (Nat.le_refl _) _).alloc (by simp) _).alloc (by simp; omega) _
  have B0 : Hid (Boxed (((w.alloc (.cells #[.slice a l.length cap] 24)).alloc (.cells #[.string ⟨#[]⟩] 9)).alloc (.cells #[.bool false] 4)) w.heap.size 24 (.slice a l.length cap)) := (b0.alloc _).alloc _
  have B1 : Hid (Boxed (((w.alloc (.cells #[.slice a l.length cap] 24)).alloc (.cells #[.string ⟨#[]⟩] 9)).alloc (.cells #[.bool false] 4)) (w.heap.size + 1) 9 (.string ⟨#[]⟩)) := b1.alloc _
  have B2 : Hid (Boxed (((w.alloc (.cells #[.slice a l.length cap] 24)).alloc (.cells #[.string ⟨#[]⟩] 9)).alloc (.cells #[.bool false] 4)) (w.heap.size + 1 + 1) 4 (.bool false)) := b2
  clear b0 b1 b2 hva
  have hok := fun W hW => implOk (.slice a l.length cap) l W hW h.2.1
  have hF : Hid (Fits w (.slice a l.length cap) l) := h
  have HS : Hid (vary.size ≤ maxLen) := hs
  clear h hs
  refine (callsIn_wide (n := 5)).1 ?_
  refine callsIn_of_wp_marks Tryz.func8 rfl trivial ?_ rfl
  simp only [Tryz.ntmps8, List.size_toArray, List.length_cons, List.length_nil, Nat.reduceAdd, Nat.reduceSub, Array.replicate_succ, Array.replicate_zero, List.push_toArray, List.append_toArray, List.nil_append, List.cons_append]
  refine wpIn_wide.2 ?_
  cases hfo : fldsOk l with
  | false =>
    go_wp2_with (go_at_call 30; refine (hok _ (hF.out.kept hB3.out).1).mono ?_; rintro e w1 ⟨rfl, hb1⟩; rw [hfo]; have c1 := (boxB B1.out hb1).cell; have f1 := (boxB B1.out hb1).frozen; have c2 := (boxB B2.out hb1).cell; have f2 := (boxB B2.out hb1).frozen)
    have hx : selE (selI vary l) = .tuple #[.string ⟨#[]⟩, .bool false] := by rw [selI_no hfo]; rfl
    refine ⟨.tuple #[.string ⟨#[]⟩, .bool false], ?_, by rw [hx], ((hB3.out.trans (hb1.mono hB3.out.size)).setCell (p := ⟨w.heap.size + 1, 0, none⟩) (by show w.heap.size ≤ w.heap.size + 1; omega) _).setCell (p := ⟨w.heap.size + 1 + 1, 0, none⟩) (by show w.heap.size ≤ w.heap.size + 1 + 1; omega) _⟩
    simp [results, Tryz.results8, go_sem, c1, c2]
  | true =>
    go_wp2_with (first | (go_at_call 30; refine (hok _ (hF.out.kept hB3.out).1).mono ?_; rintro e w1 ⟨rfl, hb1⟩; rw [hfo]) | (go_at_call 31; refine (implNames _ _).mono ?_; rintro e w2 ⟨rfl, rfl⟩))
    have hn3 : w.heap.size + 1 + 1 < w1.heap.size := by
      have := hb1.size
      simp at this
      omega
    have B1' : Hid (Below w.heap.size w w1) := hB3.out.trans (hb1.mono hB3.out.size)
    have A1 : Hid (Boxed w1 w.heap.size 24 (.slice a l.length cap)) := boxB B0.out hb1
    have T1 : Hid (Boxed w1 (w.heap.size + 1) 9 (.string ⟨#[]⟩)) := boxB B1.out hb1
    have R1 : Hid (Boxed w1 (w.heap.size + 1 + 1) 4 (.bool false)) := boxB B2.out hb1
    have F1 : Hid (Fits w1 (.slice a l.length cap) l) := (hF.out.kept (hB3.out.mono (Nat.le_refl _))).kept hb1
    clear hB3 B0 B1 B2 hb1 hok
    have hbv := (Boxed.new (w1.alloc (.cells #[.slice none 0 0] 22)) 9 (.string vary)).cell
    rw [World.size_alloc] at hbv
    have S0 : SelAt w (.slice a l.length cap) w1.heap.size ((w1.alloc (.cells #[.slice none 0 0] 22)).alloc (.cells #[.string vary] 9)) (.slice none 0 0) [] :=
      ⟨(Boxed.new w1 22 _).alloc _, OwnsB.nil _ _, (A1.out.alloc _).alloc _, (T1.out.alloc _).alloc _, (R1.out.alloc _).alloc _, hn3, (B1'.out.alloc (by have := B1'.out.size; omega) _).alloc (by have := B1'.out.size; simp; omega) _⟩
    have hnl := nmI_length (itemsA vary)
    have hil := itemsA_length vary
    refine (wpIn_wide (n := 5)).1 ?_
    refine wpIn_rangeFunc_ownG (α := Nm) rfl (by decide) (gf := 50) (lb := #[.pointer (some ⟨w1.heap.size + 1, 0, none⟩)]) rfl trivial (enters_of Tryz.func50 (by kernel_rfl) rfl)
      (names_stops 4 (by decide) vary HS.out (w1.heap.size + 1) ((w1.alloc (.cells #[.slice none 0 0] 22)).alloc (.cells #[.string vary] 9)) (by simp) hbv) KeepN.trans KeepN.book (Below.refl _ _) (fun _ => rfl)
      (fun pre W => (∃ v, Boxed W w1.heap.size 22 v ∧ W.ownsRow w.heap.size 5 1 v (selW l (pre.map Nm.s)).data.toList.length (bytesV (selW l (pre.map Nm.s)).data.toList) ∧ (∀ x ∈ pre, badN x.s = false)) ∧ (Boxed W w.heap.size 24 (.slice a l.length cap) ∧ (Boxed W (w.heap.size + 1) 9 (.string ⟨#[]⟩) ∧ (Boxed W (w.heap.size + 1 + 1) 4 (.bool false) ∧ Below w.heap.size w W))))
      (fun c pre W => (c = .ret ∧ ∃ x ∈ pre, badN x.s = true) ∧ (Boxed W (w.heap.size + 1) 9 (.string ⟨#[]⟩) ∧ (Boxed W (w.heap.size + 1 + 1) 4 (.bool false) ∧ Below w.heap.size w W)))
      (OwnFrom.and (Own.from (holdsRow_own w.heap.size w1.heap.size 22 5 1 (fun pre : List Nm => (selW l (pre.map Nm.s)).data.toList.length) (fun pre => bytesV (selW l (pre.map Nm.s)).data.toList) (fun pre _ => ∀ x ∈ pre, badN x.s = false)) _) (OwnFrom.and (Own.from (boxed_own _ _ (fun _ => .slice a l.length cap)) _) (OwnFrom.and (Own.from (boxed_own _ _ (fun _ => .string ⟨#[]⟩)) _) (OwnFrom.and (Own.from (boxed_own _ _ (fun _ => .bool false)) _) (ownFrom_below (Nat.le_refl _) (by simp; omega))))))
      (fun c => OwnFrom.and (ownFrom_pure _ (fun pre : List Nm => c = .ret ∧ ∃ x ∈ pre, badN x.s = true)) (OwnFrom.and (Own.from (boxed_own _ _ (fun _ => .string ⟨#[]⟩)) _) (OwnFrom.and (Own.from (boxed_own _ _ (fun _ => .bool false)) _) (ownFrom_below (Nat.le_refl _) (by simp; omega)))))
      ⟨⟨_, S0.box, S0.own, by simp⟩, S0.asks, S0.txt, S0.tru, S0.low⟩
      (fun x => { tmps := #[.string vary, .slice a l.length cap, undef, .pointer (some ⟨w.heap.size, 0, none⟩), .pointer (some ⟨w.heap.size + 1, 0, none⟩), .pointer (some ⟨w.heap.size + 1 + 1, 0, none⟩), .pointer (some ⟨w1.heap.size, 0, none⟩), .string x.s, undef, undef, .slice a l.length cap, .bool true, .bool false, .string vary, .func (.func 50) #[] #[.pointer (some ⟨w1.heap.size + 1, 0, none⟩)], .string x.s, undef, undef, undef, undef, undef, undef, undef, undef, undef, undef, undef, undef, undef, undef, undef, undef, undef, undef, undef, undef, undef, undef, undef, undef, undef, undef, undef, undef], defers := [] }) ?assign ?body ?done ?stop
    case assign =>
      intro lo x W K hK
      gi_wp2
      exact hK
    case body =>
      rintro lo pre x W ⟨⟨v, hv, hrow, hgood⟩, ha, ht, hr, hB⟩ hlt
      have S1 : Hid (SelAt w (.slice a l.length cap) w1.heap.size W v (selW l (pre.map Nm.s)).data.toList) := ⟨hv, hrow, ha, ht, hr, hn3, hB⟩
      have hgood' : Hid (∀ x ∈ pre, badN x.s = false) := hgood
      have hsz : (selW l (pre.map Nm.s)).data.toList.length ≤ 361000 := by
        have h1 := selW_size l (pre.map Nm.s) (fun y hy => by
          obtain ⟨z, hz, rfl⟩ := List.mem_map.1 hy
          exact hgood z hz)
        rw [List.length_map] at h1
        have h2 : (selW l (pre.map Nm.s)).data.toList.length = (selW l (pre.map Nm.s)).size := by simp
        omega
      obtain ⟨va, vc, rfl⟩ := SelAt.own_form S1.out.own
      have cS := hv.cell
      have cA := ha.cell
      have cT := ht.cell
      have fT := ht.frozen
      have cR := hr.cell
      have fR := hr.frozen
      have hxs := x.small
      have hxm : x.s.size ≤ maxLen := by unfold maxLen; omega
      clear hgood hv hrow ha ht hr hB hbv S0 A1 T1 R1 hlt hnl hil
      by_cases hst : x.s = ⟨#[42]⟩
      · have hbad : Hid (badN x.s = true) := by
          show _ = _
          unfold badN
          rw [hst]
          rfl
        have hq : (x.s.toList == [42]) = true := by
          rw [hst]
          show ((txt [42]).toList == [42]) = true
          rw [txt_toList]
          rfl
        clear hst
        gi_wp2
        refine ⟨trivial, ?_⟩
        gi_wp2
        obtain ⟨h1, h2, h3, h4⟩ := S1.out.leave
        exact ⟨h1.from _, ⟨rfl, x, by simp, hbad.out⟩, h2, h3, h4⟩
      · have hq : (x.s.toList == [42]) = false := starV hst
        have hbq : Hid (badN x.s = !tokB x.s) := by
          show _ = _
          unfold badN
          rw [decide_eq_false hst, Bool.false_or]
        clear hst
        cases htk : tokB x.s with
        | false =>
          gi_wp2_with (refine ⟨trivial, ?_⟩; gi_at_call 32; refine (CallsIn.inRound lo (callsIn_wide.2 (implTok x.s _ hxm))).mono ?_; rintro e W2 ⟨rfl, hb2⟩; rw [htk]; have S2 : Hid (SelAt w (.slice a l.length cap) w1.heap.size W2 (.slice va (selW l (pre.map Nm.s)).data.toList.length vc) (selW l (pre.map Nm.s)).data.toList) := S1.out.call hb2; have cT2 := S2.out.txt.cell; have fT2 := S2.out.txt.frozen; have cR2 := S2.out.tru.cell; have fR2 := S2.out.tru.frozen)
          obtain ⟨h1, h2, h3, h4⟩ := S2.out.leave
          exact ⟨((others_below hb2).trans h1).from _, ⟨rfl, x, by simp, by rw [hbq.out, htk]; rfl⟩, h2, h3, h4⟩
        | true =>
          have hxs4 := tok_most htk
          have HG : Hid (∀ y ∈ pre ++ [x], badN y.s = false) := fun y hy => by
            rcases List.mem_append.1 hy with hy | hy
            · exact hgood'.out y hy
            · rw [List.mem_singleton.1 hy, hbq.out, htk]; rfl
          have cG := fun W2 (S2 : SelAt w (.slice a l.length cap) w1.heap.size W2 (.slice va (selW l (pre.map Nm.s)).data.toList.length vc) (selW l (pre.map Nm.s)).data.toList) => implGet (.slice a l.length cap) l x.s W2 (hF.out.kept S2.low).1 hF.out.2.1 (by omega)
          have HW : Hid (selW l ((pre ++ [x]).map Nm.s) = selQ l (selW l (pre.map Nm.s)) x.s) := by
            show _ = _
            rw [List.map_append]
            exact selW_snoc l _ x.s
          rw [← getA_yes x.s hfo] at cG
          have hgm := quoA_most (getF l x.s).1
          have hgz := getF_max (l := l) x.s hF.out.2.1 hF.out.2.2.1
          unfold selQ at HW
          generalize getF l x.s = gt at cG HW hgm hgz
          have hxl : x.s.data.toList.length = x.s.size := by simp
          have hql : (quoA gt.1).data.toList.length = (quoA gt.1).size := by simp
          generalize hb0 : (selW l (pre.map Nm.s)) = bs at HW S1 cG hsz
          clear hgood' hbq
          gi_wp2_with (first | (refine ⟨trivial, ?_⟩; gi_at_call 32; refine (CallsIn.inRound lo (callsIn_wide.2 (implTok x.s _ hxm))).mono ?_; rintro e W2 ⟨rfl, hb2⟩; rw [htk]; have S2 := S1.out.call hb2; have cA2 := S2.asks.cell) | (refine ⟨trivial, ?_⟩; gi_at_call 33; refine (CallsIn.inRound lo (callsIn_wide.2 (cG _ S2))).mono ?_; rintro e W3 ⟨rfl, hb3⟩; unfold getE; have S3 := S2.call hb3; have cS3 := S3.box.cell) | (gi_at_builtin; refine wpListIn_pushStr _ rfl (.tmp 29) (.tmp 30) rfl w.heap.size _ _ x.s rfl S3.own rfl (by omega) S3.low.size ?_; intro v4 w4 ho4 hg4; obtain ⟨a4, n4, c4, rfl⟩ := SelAt.any_form ho4; obtain ⟨⟨k4, f4⟩, S4, K4, N4⟩ := S3.push ho4 hg4) | (gi_at_builtin; refine wpListIn_pushB _ w4.heap.size (by simp) rfl (.tmp 32) (.tmp 33) rfl w.heap.size _ _ 61 61 rfl rfl S4.own rfl (by rw [List.length_append]; omega) S4.low.size ?_; intro v5 w5 ho5 hg5; obtain ⟨a5, n5, c5, rfl⟩ := SelAt.any_form ho5; obtain ⟨⟨k5, f5⟩, S5, K5, N5⟩ := S4.push ho5 hg5))
          have K6 : Hid (KeepsOthers W (w5.setCell ⟨w1.heap.size, 0, none⟩ (.slice a5 n5 c5))) := (((others_below hb2).trans (others_below hb3)).trans K4).trans K5
          have N6 : Hid (KeepN W (w5.setCell ⟨w1.heap.size, 0, none⟩ (.slice a5 n5 c5))) := (((KeepN.below hb2).trans (KeepN.below hb3)).trans N4).trans N5
          have S6 : Hid (SelAt w (.slice a l.length cap) w1.heap.size (w5.setCell ⟨w1.heap.size, 0, none⟩ (.slice a5 n5 c5)) (.slice a5 n5 c5) (bs.data.toList ++ x.s.data.toList ++ [61])) := S5
          generalize w5.setCell ⟨w1.heap.size, 0, none⟩ (.slice a5 n5 c5) = W6 at K6 N6 S6 ⊢
          clear S5 K5 N5 S4 K4 N4 S3 S2 S1 hb2 hb3 cG cS cA cT fT cR fR k4 f4 k5 f5 ho4 ho5 hg4 hg5 cA2 cS3
          have hmx : Tryz.prog.follows .mixedOrders = true := by kernel_rfl
          have cS6 := S6.out.box.cell
          refine wpIn_region_any hmx ?_
          (try (change wpAnyIn _ _ _ _ _ _ _ _ _ (World.drew _)))
          have HD : Hid ((selW l ((pre ++ [x]).map Nm.s)).data.toList = bs.data.toList ++ x.s.data.toList ++ [61] ++ (quoA gt.1).data.toList ++ [59]) := by
            show _ = _
            rw [HW.out]
            simp
          refine wpAnyIn_ready (rs := [0, 1]) (by kernel_rfl) (by simp) ?_
          refine AllReadyIn.cons rfl (fun K hK => ?_) (AllReadyIn.cons rfl (fun K hK => ?_) AllReadyIn.nil)
          · go_simp
            refine hK _ _ ?_
            clear hK K
            refine wpAnyIn_ready (rs := [1]) (by kernel_rfl) (by simp) ?_
            refine AllReadyIn.cons rfl (fun K hK => ?_) AllReadyIn.nil
            go_simp
            refine hK _ _ ?_
            clear hK K
            refine wpAnyIn_ready (rs := [2]) (by kernel_rfl) (by simp) ?_
            refine AllReadyIn.cons rfl (fun K hK => ?_) AllReadyIn.nil
            go_simp
            gi_wp2_with (refine ⟨trivial, ?_⟩; gi_at_call 34; refine (CallsIn.inRound lo (callsIn_wide.2 (implQuoted gt.1 _ (by unfold maxLen; omega)))).mono ?_; rintro e W7 ⟨rfl, hb7⟩; have S7 := S6.out.drew.call hb7; have cS7 := S7.box.cell)
            have K7 : KeepsOthers W W7 := (K6.out.trans (KeepsOthers.drew W6)).trans (others_below hb7)
            have N7 : KeepN W W7 := KeepN.trans (B := W6.drew) N6.out (KeepN.below hb7)
            refine wpAnyIn_ready (rs := [3]) (by kernel_rfl) (by simp) ?_
            refine AllReadyIn.cons rfl (fun K hK => ?_) AllReadyIn.nil
            refine stepIn_pushStr _ rfl (.tmp 35) (.tmp 37) rfl w.heap.size _ _ (quoA gt.1) rfl S7.own rfl (by rw [List.length_append, List.length_append, List.length_singleton]; omega) S7.low.size ?_
            intro v8 w8 ho8 hg8
            obtain ⟨a8, n8, c8, rfl⟩ := SelAt.any_form ho8
            obtain ⟨⟨k8, f8⟩, S8, K8, N8⟩ := S7.push ho8 hg8
            refine hK _ _ ?_
            clear hK K
            refine wpAnyIn_ready (rs := [4]) (by kernel_rfl) (by simp) ?_
            refine AllReadyIn.cons rfl (fun K hK => ?_) AllReadyIn.nil
            go_simp
            refine hK _ _ ?_
            clear hK K
            refine wpAnyIn_done (by kernel_rfl) ?_ _
            generalize w8.setCell ⟨w1.heap.size, 0, none⟩ (.slice a8 n8 c8) = W9 at S8 K8 N8 ⊢
            clear k8 f8 cS7 cS6
            have cS9 := S8.box.cell
            gi_wp2_with (gi_at_builtin; refine wpListIn_pushB _ W9.heap.size rfl rfl (.tmp 39) (.tmp 40) rfl w.heap.size _ _ 59 59 rfl rfl S8.own rfl (by rw [List.length_append, List.length_append, List.length_append, List.length_singleton]; omega) S8.low.size ?_; intro v10 w10 ho10 hg10; obtain ⟨a10, n10, c10, rfl⟩ := SelAt.any_form ho10; obtain ⟨⟨k10, f10⟩, S10, K10, N10⟩ := S8.push ho10 hg10)
            refine ⟨(((K7.trans K8).trans K10)).from _, (N7.trans N8).trans N10, ⟨_, S10.box, ?_, HG.out⟩, S10.asks, S10.txt, S10.tru, S10.low⟩
            rw [HD.out]
            exact S10.own
          · go_simp
            refine hK _ _ ?_
            clear hK K
            refine wpAnyIn_ready (rs := [0, 2]) (by kernel_rfl) (by simp) ?_
            refine AllReadyIn.cons rfl (fun K hK => ?_) (AllReadyIn.cons rfl (fun K hK => ?_) AllReadyIn.nil)
            · go_simp
              refine hK _ _ ?_
              clear hK K
              refine wpAnyIn_ready (rs := [2]) (by kernel_rfl) (by simp) ?_
              refine AllReadyIn.cons rfl (fun K hK => ?_) AllReadyIn.nil
              go_simp
              gi_wp2_with (refine ⟨trivial, ?_⟩; gi_at_call 34; refine (CallsIn.inRound lo (callsIn_wide.2 (implQuoted gt.1 _ (by unfold maxLen; omega)))).mono ?_; rintro e W7 ⟨rfl, hb7⟩; have S7 := S6.out.drew.call hb7; have cS7 := S7.box.cell)
              have K7 : KeepsOthers W W7 := (K6.out.trans (KeepsOthers.drew W6)).trans (others_below hb7)
              have N7 : KeepN W W7 := KeepN.trans (B := W6.drew) N6.out (KeepN.below hb7)
              refine wpAnyIn_ready (rs := [3]) (by kernel_rfl) (by simp) ?_
              refine AllReadyIn.cons rfl (fun K hK => ?_) AllReadyIn.nil
              refine stepIn_pushStr _ rfl (.tmp 35) (.tmp 37) rfl w.heap.size _ _ (quoA gt.1) rfl S7.own rfl (by rw [List.length_append, List.length_append, List.length_singleton]; omega) S7.low.size ?_
              intro v8 w8 ho8 hg8
              obtain ⟨a8, n8, c8, rfl⟩ := SelAt.any_form ho8
              obtain ⟨⟨k8, f8⟩, S8, K8, N8⟩ := S7.push ho8 hg8
              refine hK _ _ ?_
              clear hK K
              refine wpAnyIn_ready (rs := [4]) (by kernel_rfl) (by simp) ?_
              refine AllReadyIn.cons rfl (fun K hK => ?_) AllReadyIn.nil
              go_simp
              refine hK _ _ ?_
              clear hK K
              refine wpAnyIn_done (by kernel_rfl) ?_ _
              generalize w8.setCell ⟨w1.heap.size, 0, none⟩ (.slice a8 n8 c8) = W9 at S8 K8 N8 ⊢
              clear k8 f8 cS7 cS6
              have cS9 := S8.box.cell
              gi_wp2_with (gi_at_builtin; refine wpListIn_pushB _ W9.heap.size rfl rfl (.tmp 39) (.tmp 40) rfl w.heap.size _ _ 59 59 rfl rfl S8.own rfl (by rw [List.length_append, List.length_append, List.length_append, List.length_singleton]; omega) S8.low.size ?_; intro v10 w10 ho10 hg10; obtain ⟨a10, n10, c10, rfl⟩ := SelAt.any_form ho10; obtain ⟨⟨k10, f10⟩, S10, K10, N10⟩ := S8.push ho10 hg10)
              refine ⟨(((K7.trans K8).trans K10)).from _, (N7.trans N8).trans N10, ⟨_, S10.box, ?_, HG.out⟩, S10.asks, S10.txt, S10.tru, S10.low⟩
              rw [HD.out]
              exact S10.own
            · go_simp
              gi_wp2_with (refine ⟨trivial, ?_⟩; gi_at_call 34; refine (CallsIn.inRound lo (callsIn_wide.2 (implQuoted gt.1 _ (by unfold maxLen; omega)))).mono ?_; rintro e W7 ⟨rfl, hb7⟩; have S7 := S6.out.drew.call hb7; have cS7 := S7.box.cell)
              refine wpAnyIn_ready (rs := [0]) (by kernel_rfl) (by simp) ?_
              refine AllReadyIn.cons rfl (fun K hK => ?_) AllReadyIn.nil
              go_simp
              refine hK _ _ ?_
              clear hK K
              have K7 : KeepsOthers W W7 := (K6.out.trans (KeepsOthers.drew W6)).trans (others_below hb7)
              have N7 : KeepN W W7 := KeepN.trans (B := W6.drew) N6.out (KeepN.below hb7)
              refine wpAnyIn_ready (rs := [3]) (by kernel_rfl) (by simp) ?_
              refine AllReadyIn.cons rfl (fun K hK => ?_) AllReadyIn.nil
              refine stepIn_pushStr _ rfl (.tmp 35) (.tmp 37) rfl w.heap.size _ _ (quoA gt.1) rfl S7.own rfl (by rw [List.length_append, List.length_append, List.length_singleton]; omega) S7.low.size ?_
              intro v8 w8 ho8 hg8
              obtain ⟨a8, n8, c8, rfl⟩ := SelAt.any_form ho8
              obtain ⟨⟨k8, f8⟩, S8, K8, N8⟩ := S7.push ho8 hg8
              refine hK _ _ ?_
              clear hK K
              refine wpAnyIn_ready (rs := [4]) (by kernel_rfl) (by simp) ?_
              refine AllReadyIn.cons rfl (fun K hK => ?_) AllReadyIn.nil
              go_simp
              refine hK _ _ ?_
              clear hK K
              refine wpAnyIn_done (by kernel_rfl) ?_ _
              generalize w8.setCell ⟨w1.heap.size, 0, none⟩ (.slice a8 n8 c8) = W9 at S8 K8 N8 ⊢
              clear k8 f8 cS7 cS6
              have cS9 := S8.box.cell
              gi_wp2_with (gi_at_builtin; refine wpListIn_pushB _ W9.heap.size rfl rfl (.tmp 39) (.tmp 40) rfl w.heap.size _ _ 59 59 rfl rfl S8.own rfl (by rw [List.length_append, List.length_append, List.length_append, List.length_singleton]; omega) S8.low.size ?_; intro v10 w10 ho10 hg10; obtain ⟨a10, n10, c10, rfl⟩ := SelAt.any_form ho10; obtain ⟨⟨k10, f10⟩, S10, K10, N10⟩ := S8.push ho10 hg10)
              refine ⟨(((K7.trans K8).trans K10)).from _, (N7.trans N8).trans N10, ⟨_, S10.box, ?_, HG.out⟩, S10.asks, S10.txt, S10.tru, S10.low⟩
              rw [HD.out]
              exact S10.own
    case done =>
      rintro D ys W hD rfl ⟨⟨v, hv, hrow, hgood⟩, ha, ht, hr, hB⟩ hK
      have hD' : w1.heap.size + 1 + 1 ≤ D := by simpa using hD
      rw [nmI_names (fun t ht => items_size vary t ht)] at hrow
      have hgood : ∀ x ∈ (nmI (itemsA vary)).map txt, badN x = false := by
        rw [← nmI_names (fun t ht => items_size vary t ht)]
        intro x hx
        obtain ⟨y, hy, rfl⟩ := List.mem_map.1 hx
        exact hgood y hy
      have ho : OwnsB W w.heap.size v (selW l ((nmI (itemsA vary)).map txt)).data.toList := hrow
      have hback := ho.text
      have HE : Hid (selE (selI vary l) = .tuple #[.string (selW l ((nmI (itemsA vary)).map txt)), .bool true]) := by
        show _ = _
        rw [nmI_is] at hgood ⊢
        rw [selI_all hfo hgood]
        rfl
      have et : (⟨(selW l ((nmI (itemsA vary)).map txt)).data.toList.toArray⟩ : ByteArray) = selW l ((nmI (itemsA vary)).map txt) := txt_back _
      rw [et] at hback
      obtain ⟨a', c', rfl⟩ := SelAt.own_form ho
      generalize selW l ((nmI (itemsA vary)).map txt) = rt at hback HE hv
      rw [show rt.data.toList.length = rt.size from by simp] at hback hv
      have hc := hv.cell
      have ct := ht.cell
      have ft := ht.frozen
      have cr := hr.cell
      have fr := hr.frozen
      clear hrow ho ha hbv S0 A1 T1 R1 hgood et
      have ht2 : Hid (Boxed ((W.setCell ⟨w.heap.size + 1, 0, none⟩ (.string rt)).setCell ⟨w.heap.size + 1 + 1, 0, none⟩ (.bool true)) (w.heap.size + 1) 9 (.string rt)) := (ht.set _).other (by omega) _
      have hr2 : Hid (Boxed ((W.setCell ⟨w.heap.size + 1, 0, none⟩ (.string rt)).setCell ⟨w.heap.size + 1 + 1, 0, none⟩ (.bool true)) (w.heap.size + 1 + 1) 4 (.bool true)) := (hr.other (by omega) _).set _
      have hK2 : Hid (((W.setCell ⟨w.heap.size + 1, 0, none⟩ (.string rt)).setCell ⟨w.heap.size + 1 + 1, 0, none⟩ (.bool true)).heap[D]? = some (.deferred (some []))) := ((KeepsOthers.setCell W ⟨w.heap.size + 1, 0, none⟩ (.string rt)).trans (KeepsOthers.setCell _ ⟨w.heap.size + 1 + 1, 0, none⟩ (.bool true))).same D _ hK rfl
      have hB2 : Hid (Below w.heap.size w ((W.setCell ⟨w.heap.size + 1, 0, none⟩ (.string rt)).setCell ⟨w.heap.size + 1 + 1, 0, none⟩ (.bool true))) := (hB.setCell (p := ⟨w.heap.size + 1, 0, none⟩) (by show w.heap.size ≤ w.heap.size + 1; omega) _).setCell (p := ⟨w.heap.size + 1 + 1, 0, none⟩) (by show w.heap.size ≤ w.heap.size + 1 + 1; omega) _
      go_wp2
      generalize (W.setCell ⟨w.heap.size + 1, 0, none⟩ (.string rt)).setCell ⟨w.heap.size + 1 + 1, 0, none⟩ (.bool true) = W2 at ht2 hr2 hK2 hB2 ⊢
      refine ⟨by simp, .inl ⟨_, _, rfl, run_takeDeferred hK2.out, ?_⟩⟩
      have k1 := (ht2.out.kept (grownBy_putObj' W2 D (.deferred none)) (fun e => by cases e; omega)).cell
      have k2 := (hr2.out.kept (grownBy_putObj' W2 D (.deferred none)) (fun e => by cases e; omega)).cell
      refine ⟨.tuple #[.string rt, .bool true], ?_, by rw [HE.out], hB2.out.trans (belowK_b (w := w) (Nat.le_refl _) W2 D _ _ (by omega) hK2.out rfl rfl)⟩
      simp [results, Tryz.results8, go_sem, k1, k2]
    case stop =>
      rintro D c pre W hD hpre ⟨⟨rfl, y, hy, hbad⟩, ht, hr, hB⟩ hK
      have hD' : w1.heap.size + 1 + 1 ≤ D := by simpa using hD
      have HE : Hid (selE (selI vary l) = .tuple #[.string ⟨#[]⟩, .bool false]) := by
        show _ = _
        rw [selI_bad (x := y.s) (by rw [← nmI_is, ← nmI_names (fun t ht => items_size vary t ht)]; exact List.mem_map.2 ⟨y, hpre.subset hy, rfl⟩) hbad]
        rfl
      gi_wp2
      refine ⟨by simp, .inl ⟨_, _, rfl, run_takeDeferred hK, ?_⟩⟩
      have k1 := (ht.kept (grownBy_putObj' W D (.deferred none)) (fun e => by cases e; omega)).cell
      have k2 := (hr.kept (grownBy_putObj' W D (.deferred none)) (fun e => by cases e; omega)).cell
      refine ⟨.tuple #[.string ⟨#[]⟩, .bool false], ?_, by rw [HE.out], hB.trans (belowK_b (w := w) (Nat.le_refl _) W D _ _ (by omega) hK rfl rfl)⟩
      simp [results, Tryz.results8, go_sem, k1, k2]
end Go.Proofs.YtnachhmhjodbhaaGreatDoor
namespace Go.Proofs.YtnachhmhjodbhaaGreatDoor
open Go.RowKit
set_option linter.unusedVariables false

structure Ob where
  k : ByteArray
  l : List Fl
  r : Rs
  asked : Int
  got : Int
  ep : Int
def obV (o : Ob) (v u : Value) : Value := .agg #[.string o.k, v, .int .i64 o.r.s, u, .string o.r.b, .int .i64 o.asked, .int .i64 o.got, .int .i64 o.ep]
def keyN (n : Int) : Bool := decide (33 ≤ n ∧ n ≤ 126)
theorem keyN_yes {n : Int} (h : 33 ≤ n ∧ n ≤ 126) : keyN n = true := decide_eq_true h
theorem keyN_no {n : Int} (h : ¬ (33 ≤ n ∧ n ≤ 126)) : keyN n = false := decide_eq_false h
def keyO (s : ByteArray) : Bool := allB keyN s.data.toList && decide (s.size ≤ 500)
def momB (n : Int) : Bool := decide (0 ≤ n) && decide (n ≤ 253402300799)
def obB (o : Ob) : Bool := keyO o.k && (fldsOk o.l && (rsOk o.r && (momB o.asked && (momB o.got && (decide (o.asked ≤ o.got) && (decide (0 ≤ o.ep) && decide (o.ep ≤ 100000)))))))
end Go.Proofs.YtnachhmhjodbhaaGreatDoor
namespace Go.Proofs.YtnachhmhjodbhaaGreatDoor
open Go.RowKit
set_option linter.unusedVariables false

def rsV (r : Rs) (v : Value) : Value := .agg #[.int .i64 r.s, v, .string r.b]
/-- The cells of a request in block b. -/
structure RqB (w : World) (b : Nat) (r : Rq) (v : Value) : Prop where
  c0 : w.cell? ⟨b, 0, none⟩ = some (.string r.m)
  c1 : w.cell? ⟨b, 1, none⟩ = some (.string r.t)
  c2 : w.cell? ⟨b, 2, none⟩ = some v
  c3 : w.cell? ⟨b, 3, none⟩ = some (.string r.b)
  fz : ∀ k, w.frozen? ⟨b, k, none⟩ = false
  hi : b < w.heap.size
structure RsB (w : World) (b : Nat) (r : Rs) (v : Value) : Prop where
  c0 : w.cell? ⟨b, 0, none⟩ = some (.int .i64 r.s)
  c1 : w.cell? ⟨b, 1, none⟩ = some v
  c2 : w.cell? ⟨b, 2, none⟩ = some (.string r.b)
  fz : ∀ k, w.frozen? ⟨b, k, none⟩ = false
  hi : b < w.heap.size
theorem RqB.new (w : World) (r : Rq) (v : Value) (t : TypeId) : RqB (w.alloc (.cells #[.string r.m, .string r.t, v, .string r.b] t)) w.heap.size r v where
  c0 := World.cell?_alloc_mark _ _ _ _ _
  c1 := World.cell?_alloc_mark _ _ _ _ _
  c2 := World.cell?_alloc_mark _ _ _ _ _
  c3 := World.cell?_alloc_mark _ _ _ _ _
  fz := fun k => by rw [World.frozen?_alloc_mark]; simp
  hi := by simp
theorem RsB.new (w : World) (r : Rs) (v : Value) (t : TypeId) : RsB (w.alloc (.cells #[.int .i64 r.s, v, .string r.b] t)) w.heap.size r v where
  c0 := World.cell?_alloc_mark _ _ _ _ _
  c1 := World.cell?_alloc_mark _ _ _ _ _
  c2 := World.cell?_alloc_mark _ _ _ _ _
  fz := fun k => by rw [World.frozen?_alloc_mark]; simp
  hi := by simp
theorem RqB.next {w w' : World} {b : Nat} {r : Rq} {v : Value} (h : RqB w b r v) (hb : Below w.heap.size w w') : RqB w' b r v := by
  have e : w'.heap[b]? = w.heap[b]? := hb.block b h.hi
  have k : ∀ k, w'.cell? ⟨b, k, none⟩ = w.cell? ⟨b, k, none⟩ := fun k => World.cell?_of_block (a := ⟨b, k, none⟩) e
  exact ⟨(k 0).trans h.c0, (k 1).trans h.c1, (k 2).trans h.c2, (k 3).trans h.c3, fun j => (World.frozen?_of_block (a := ⟨b, j, none⟩) e).trans (h.fz j), Nat.lt_of_lt_of_le h.hi hb.size⟩
theorem RsB.next {w w' : World} {b : Nat} {r : Rs} {v : Value} (h : RsB w b r v) (hb : Below w.heap.size w w') : RsB w' b r v := by
  have e : w'.heap[b]? = w.heap[b]? := hb.block b h.hi
  have k : ∀ k, w'.cell? ⟨b, k, none⟩ = w.cell? ⟨b, k, none⟩ := fun k => World.cell?_of_block (a := ⟨b, k, none⟩) e
  exact ⟨(k 0).trans h.c0, (k 1).trans h.c1, (k 2).trans h.c2, fun j => (World.frozen?_of_block (a := ⟨b, j, none⟩) e).trans (h.fz j), Nat.lt_of_lt_of_le h.hi hb.size⟩
theorem RqB.alloc {w : World} {b : Nat} {r : Rq} {v : Value} (h : RqB w b r v) (o : Obj) : RqB (w.alloc o) b r v := h.next ((Below.refl _ w).alloc (Nat.le_refl _) _)
theorem RsB.alloc {w : World} {b : Nat} {r : Rs} {v : Value} (h : RsB w b r v) (o : Obj) : RsB (w.alloc o) b r v := h.next ((Below.refl _ w).alloc (Nat.le_refl _) _)
theorem Fits.alloc {w : World} {v : Value} {l : List Fl} (h : Fits w v l) (o : Obj) : Fits (w.alloc o) v l := h.kept ((Below.refl _ w).alloc (Nat.le_refl _) _)
/-- What a walk is told of a request, of a response that came in. -/
def RqIn (w : World) (v : Value) (r : Rq) : Prop := Fits w v r.l ∧ r.m.size ≤ 1048576 ∧ r.t.size ≤ 1048576 ∧ r.b.size ≤ 1048576
def RsIn (w : World) (v : Value) (r : Rs) : Prop := Fits w v r.l ∧ r.b.size ≤ 1048576
theorem RqIn.kept {w w' : World} {v : Value} {r : Rq} (h : RqIn w v r) (hb : Below w.heap.size w w') : RqIn w' v r := ⟨h.1.kept hb, h.2⟩
theorem RsIn.kept {w w' : World} {v : Value} {r : Rs} (h : RsIn w v r) (hb : Below w.heap.size w w') : RsIn w' v r := ⟨h.1.kept hb, h.2⟩
theorem le_max {n : Nat} (h : n ≤ 1048576) : n ≤ maxLen := by unfold maxLen; omega

theorem specIn6 (x lo hi : Int) (w : World) :
    Calls Tryz.prog 72 #[.int .i64 x, .int .i64 lo, .int .i64 hi] w fun e w' => e = .returned (.bool (decide (lo ≤ x ∧ x ≤ hi))) ∧ w = w' := by
  obtain ⟨b, hb⟩ : ∃ b, decide (lo ≤ x ∧ x ≤ hi) = b := ⟨_, rfl⟩
  rw [hb]
  by_cases h1 : lo ≤ x
  · have H0 : Hid (decide (x ≤ hi) = b) := by show decide (x ≤ hi) = b; rw [← hb]; simp [h1]
    have d1 : decide (lo ≤ x) = true := by simpa using h1
    clear hb
    go_enter Tryz.func72, Tryz.ntmps72
    go_wp2
    go_ret
    exact ⟨ret_bool H0.out, rfl⟩
  · have H0 : Hid (false = b) := by show false = b; rw [← hb]; simp [h1]
    have d1 : decide (lo ≤ x) = false := by simpa using h1
    clear hb
    go_enter Tryz.func72, Tryz.ntmps72
    go_wp2
    go_ret
    exact ⟨ret_bool H0.out, rfl⟩
theorem rsOk_no1 {r : Rs} (h : decide (200 ≤ r.s ∧ r.s ≤ 599) = false) : false = rsOk r := by unfold rsOk; rw [h]; rfl
theorem rsOk_no2 {r : Rs} (h : decide (200 ≤ r.s ∧ r.s ≤ 599) = true) (h2 : ownB r.l = false) : false = rsOk r := by unfold rsOk; rw [h, h2]; rfl
theorem rsOk_no3 {r : Rs} (h : decide (200 ≤ r.s ∧ r.s ≤ 599) = true) (h2 : ownB r.l = true) (h3 : ¬ r.b.size ≤ 4000) : false = rsOk r := by unfold rsOk; rw [h, h2, decide_eq_false h3]; rfl
theorem rsOk_yes {r : Rs} (h : decide (200 ≤ r.s ∧ r.s ≤ 599) = true) (h2 : ownB r.l = true) (h3 : r.b.size ≤ 4000) (h4 : bareB r.s = false) : true = rsOk r := by unfold rsOk; rw [h, h2, decide_eq_true h3, h4]; rfl
theorem rsOk_is {r : Rs} (h : decide (200 ≤ r.s ∧ r.s ≤ 599) = true) (h2 : ownB r.l = true) (h3 : r.b.size ≤ 4000) (h4 : bareB r.s = true) : decide (r.b.size = 0) = rsOk r := by unfold rsOk; rw [h, h2, decide_eq_true h3, h4]; rfl
theorem void_emp (b : ByteArray) : b.toList.isEmpty = decide (b.size = 0) := by
  rw [ByteArray.toList_eq]
  by_cases h : b.size = 0
  · rw [decide_eq_true h, void_list h]; rfl
  · rw [decide_eq_false h, List.isEmpty_eq_false_iff]
    intro e
    apply h
    have : b.data.toList.length = b.size := by simp
    rw [e] at this
    simpa using this.symm
theorem ch_list : chS.toList = [99, 104, 117, 110, 107, 101, 100] := by rw [ByteArray.toList_eq]; rfl
theorem same_ch {y : ByteArray} {b : Bool} (h : (y.toList == chS.toList) = b) : (y.toList == [99, 104, 117, 110, 107, 101, 100]) = b := by rw [ch_list] at h; exact h
set_option maxHeartbeats 1000000 in
theorem specRsOk (r : Rs) (v : Value) (w : World) (h : RsIn w v r) :
    Calls Tryz.prog 70 #[rsV r v] w fun e w' => e = .returned (.bool (rsOk r)) ∧ Below w.heap.size w w' := by
  obtain ⟨hf, z3⟩ := h
  have hfs := hf.1
  obtain ⟨a, cap, rfl, hcap⟩ := hfs
  clear hcap
  unfold rsV
  have F0 : Hid (Fits (w.alloc (.cells #[.int .i64 r.s, .slice a r.l.length cap, .string r.b] 30)) (.slice a r.l.length cap) r.l) := hf.alloc _
  have Q0 : Hid (RsB (w.alloc (.cells #[.int .i64 r.s, .slice a r.l.length cap, .string r.b] 30)) w.heap.size r (.slice a r.l.length cap)) := RsB.new w r _ _
  have B0 : Hid (Below w.heap.size w (w.alloc (.cells #[.int .i64 r.s, .slice a r.l.length cap, .string r.b] 30))) := (Below.refl _ w).alloc (Nat.le_refl _) _
  clear hf
  have hq1 : r.b.size ≤ 9223372036854775807 := by omega
  go_enter Tryz.func70, Tryz.ntmps70
  go_wp2_with fail
  refine (specIn6 _ _ _ _).mono ?_
  rintro e w1 ⟨rfl, rfl⟩
  cases h1 : decide (200 ≤ r.s ∧ r.s ≤ 599) with
  | false =>
    have H0 : Hid (false = rsOk r) := rsOk_no1 h1
    go_wp2
    go_ret
    exact ⟨ret_bool H0.out, B0.out⟩
  | true =>
    go_wp2_with fail
    refine (specOwn _ r.l _ F0.out).mono ?_
    rintro e w2 ⟨rfl, hb2⟩
    have Q2 : Hid (RsB w2 w.heap.size r (.slice a r.l.length cap)) := Q0.out.next hb2
    have B2 : Hid (Below w.heap.size w w2) := past6 B0.out hb2
    clear Q0 B0 F0 hb2
    have a0 := Q2.out.c0
    have a2 := Q2.out.c2
    cases h2 : ownB r.l with
    | false =>
      have H0 : Hid (false = rsOk r) := rsOk_no2 h1 h2
      go_wp2
      go_ret
      exact ⟨ret_bool H0.out, B2.out⟩
    | true =>
      by_cases h3 : r.b.size ≤ 4000
      · have d3 : decide ((r.b.size : Int) ≤ 4000) = true := by simp; omega
        go_wp2_with fail
        refine (specBare _ _).mono ?_
        rintro e w3 ⟨rfl, rfl⟩
        cases h4 : bareB r.s with
        | false =>
          have H0 : Hid (true = rsOk r) := rsOk_yes h1 h2 h3 h4
          go_wp2
          go_ret
          exact ⟨ret_bool H0.out, B2.out⟩
        | true =>
          have H0 : Hid (r.b.toList.isEmpty = rsOk r) := (void_emp r.b).trans (rsOk_is h1 h2 h3 h4)
          go_wp2
          go_ret
          exact ⟨ret_bool H0.out, B2.out⟩
      · have d3 : decide ((r.b.size : Int) ≤ 4000) = false := by simp; omega
        have H0 : Hid (false = rsOk r) := rsOk_no3 h1 h2 h3
        go_wp2
        go_ret
        exact ⟨ret_bool H0.out, B2.out⟩

def frmE (p : Int × Int) : Value := .tuple #[.int .i64 p.1, .int .i64 p.2]
theorem ret_frm {p : Int × Int} {x y : Int} (h : (x, y) = p) : Ending.returned (.tuple #[.int .i64 x, .int .i64 y]) = .returned (frmE p) := by subst h; rfl
theorem frm_bad {l : List Fl} (h : fldsOk l = false) : (3, 0) = frm l := by unfold frm; rw [if_neg (by rw [h]; decide)]
theorem frm_neither {l : List Fl} (h : fldsOk l = true) (h1 : (getF l clS).2 = false) (h2 : (getF l teS).2 = false) : (0, 0) = frm l := by unfold frm; rw [if_pos h, h1, h2]; rfl
theorem frm_both {l : List Fl} (h : fldsOk l = true) (h1 : (getF l clS).2 = true) (h2 : (getF l teS).2 = true) : (3, 0) = frm l := by unfold frm; rw [if_pos h, h1, h2]; rfl
theorem frm_len {l : List Fl} (h : fldsOk l = true) (h1 : (getF l clS).2 = true) (h2 : (getF l teS).2 = false) (h3 : numOk 10 15 (getF l clS).1 = true ∧ numV 10 15 (getF l clS).1 ≤ 4000) : (1, numV 10 15 (getF l clS).1) = frm l := by unfold frm; rw [if_pos h, if_pos h1, if_neg (by rw [h2]; decide), if_pos h3]
theorem frm_nolen {l : List Fl} (h : fldsOk l = true) (h1 : (getF l clS).2 = true) (h2 : (getF l teS).2 = false) (h3 : ¬ (numOk 10 15 (getF l clS).1 = true ∧ numV 10 15 (getF l clS).1 ≤ 4000)) : (3, 0) = frm l := by unfold frm; rw [if_pos h, if_pos h1, if_neg (by rw [h2]; decide), if_neg h3]
theorem frm_ch {l : List Fl} (h : fldsOk l = true) (h1 : (getF l clS).2 = false) (h2 : (getF l teS).2 = true) (h3 : lowS (getF l teS).1 = chS) : (2, 0) = frm l := by unfold frm; rw [if_pos h, if_neg (by rw [h1]; decide), if_pos h2, if_pos h3]
theorem frm_noch {l : List Fl} (h : fldsOk l = true) (h1 : (getF l clS).2 = false) (h2 : (getF l teS).2 = true) (h3 : ¬ lowS (getF l teS).1 = chS) : (3, 0) = frm l := by unfold frm; rw [if_pos h, if_neg (by rw [h1]; decide), if_pos h2, if_neg h3]
theorem getF_fits {l : List Fl} (n : ByteArray) (h : fldsOk l = true) : (getF l n).1.size ≤ 12060 := by
  have := getA_size l n
  rw [← getA_yes n h] at this
  exact this
end Go.Proofs.YtnachhmhjodbhaaGreatDoor
