/-
  The contracts of Without, the specification's and the program's.
  One field appended: in a region that draws its order; to a slice that has no room.
  A call of a function of the program, met by its contract, as one step of a region that draws its order.
-/
import Derived.Test.YteibacmohplblaaGreatDoorG14
import Derived.Laws.Append
namespace Go.Proofs.YteibacmohplblaaGreatDoor
open Go.RowKit Go.Sort Go.Maps

set_option maxHeartbeats 1000000 in
theorem specWoF (v : Value) (l : List Fl) (n : ByteArray) (w : World) (h : Fls w v l) (hok : fldsOk l = true) (hn : n.size ≤ 1048576) :
    Calls Tryz.prog 106 #[v, .string n] w fun e w' => ∃ u, e = .returned u ∧ OwnsF w' w.heap.size u (wo l n) ∧ Below w.heap.size w w' := by
  obtain ⟨a, cap, rfl, h1, h2, h3⟩ := h
  unfold maxLen at h2
  obtain ⟨hl, hfs⟩ := fldsOk_parts hok
  have hnm : n.size ≤ maxLen := by unfold maxLen; omega
  go_enter Tryz.func106, Tryz.ntmps106
  go_wp2
  go_loopw [5, 6] (fun u i wr => ∃ (k : Nat), k ≤ l.length ∧ i = .int .i64 k ∧ OwnsF wr w.heap.size u ((l.take k).filter (keepB n)) ∧ Below w.heap.size w wr) (fun _ i _ => l.length - (intOf i).toNat)
  case atStart => exact ⟨0, Nat.zero_le _, rfl, OwnsF.born w, (Below.refl _ _).alloc (Nat.le_refl _) _⟩
  case round =>
    obtain ⟨k, hk, rfl, hown, hb⟩ := hrel
    have hfl := filter_le l k (keepB n)
    by_cases hlt : k < l.length
    · obtain ⟨g, o, rfl, hg, hc⟩ := h3 (by omega)
      have c1 := (hb.cell (p := ⟨g, o + k * 2, none⟩) hg).trans (hc k hlt).1
      have c2 := (hb.cell (p := ⟨g, o + k * 2 + 1, none⟩) hg).trans (hc k hlt).2
      have hsz := fldOk_size (hfs l[k] (List.getElem_mem hlt))
      have hgr : g < wr.heap.size := Nat.lt_of_lt_of_le hg hb.size
      by_cases he : lowS l[k].1 = lowS n
      · have hq := same_yes he
        have HN : Hid ((l.take (k + 1)).filter (keepB n) = (l.take k).filter (keepB n)) := filter_no hlt (keepB_no he)
        generalize l[k] = f at c1 c2 hsz hq he
        have z1 : f.1.size ≤ maxLen := by unfold maxLen; omega
        clear hc h3 hfs he
        go_wp2_with fail
        refine (specLow _ _ z1).mono ?_
        rintro e w1 ⟨rfl, hb1⟩
        go_wp2_with fail
        refine (specLow _ _ hnm).mono ?_
        rintro e w2 ⟨rfl, hb2⟩
        have ho2 := (hown.kept hb1).kept hb2
        have hb02 : Below w.heap.size w w2 := (hb.trans (hb1.mono hb.size)).trans (hb2.mono (Nat.le_trans hb.size hb1.size))
        rw [← HN.out] at ho2
        clear c1 c2 hb hb1 hb2 hown
        go_wp2
        go_roundw
        case rel => exact ⟨k + 1, by omega, by go_num, ho2, hb02⟩
        case measure => simp [intOf]; omega
      · have hq := same_no he
        have HN : Hid ((l.take (k + 1)).filter (keepB n) = (l.take k).filter (keepB n) ++ [l[k]]) := filter_yes hlt (keepB_yes he)
        generalize l[k] = f at c1 c2 hsz hq he HN
        have z1 : f.1.size ≤ maxLen := by unfold maxLen; omega
        clear hc h3 hfs he
        go_wp2_with fail
        refine (specLow _ _ z1).mono ?_
        rintro e w1 ⟨rfl, hb1⟩
        have d1 := (hb1.cell (p := ⟨g, o + k * 2, none⟩) hgr).trans c1
        have d2 := (hb1.cell (p := ⟨g, o + k * 2 + 1, none⟩) hgr).trans c2
        have hgr1 := Nat.lt_of_lt_of_le hgr hb1.size
        go_wp2_with fail
        refine (specLow _ _ hnm).mono ?_
        rintro e w2 ⟨rfl, hb2⟩
        have e1 := (hb2.cell (p := ⟨g, o + k * 2, none⟩) hgr1).trans d1
        have e2 := (hb2.cell (p := ⟨g, o + k * 2 + 1, none⟩) hgr1).trans d2
        have ho2 := (hown.kept hb1).kept hb2
        have hb02 : Below w.heap.size w w2 := (hb.trans (hb1.mono hb.size)).trans (hb2.mono (Nat.le_trans hb.size hb1.size))
        clear c1 c2 d1 d2 hb hb1 hb2 hown
        go_wp2_with (at_builtin; refine wpList_pushF _ rfl (.tmp 23) (.tmp 28) rfl w.heap.size _ _ f rfl ho2 rfl (by omega) hb02.size ?_; intro v3 w3 ho3 hg3)
        have hb03 := hb02.grown hg3 hb02.size (OwnsF.from ho2)
        rw [← HN.out] at ho3
        clear e1 e2 ho2 hb02 hg3
        go_roundw
        case rel => exact ⟨k + 1, by omega, by go_num, ho3, hb03⟩
        case measure => simp [intOf]; omega
    · rw [filter_end hlt] at hown
      go_wp2
      go_ret
      exact ⟨_, rfl, hown, hb⟩

theorem rest_one (l : List Fl) (n : ByteArray) : l.filter (restB [lowS n]) = wo l n := by
  unfold wo
  congr 1
  funext f
  unfold restB keepB
  by_cases h : lowS f.1 = lowS n
  · simp [h]
  · have h' : ¬ lowS n = lowS f.1 := fun e => h e.symm
    simp [h, h']
theorem strs_one (w : World) (n : ByteArray) : Strs ((w.alloc (.map #[] 0)).alloc (.cells #[.string n] 9)) (.slice (some ⟨w.heap.size + 1, 0, none⟩) 1 1) [n] := by
  have h := strs_lit (w.alloc (.map #[] 0)) [n] (by simp)
  have e : (w.alloc (.map #[] 0)).heap.size = w.heap.size + 1 := by simp
  rw [e] at h
  exact h
/-- A slice of fields as the program answers it. -/
def GivesF (w w' : World) (e : Ending) (l : List Fl) : Prop := (∃ g, e = .returned (.slice (some ⟨g, 0, none⟩) l.length l.length) ∧ HasF w' w.heap.size (.slice (some ⟨g, 0, none⟩) l.length l.length) l) ∧ Below w.heap.size w w'
theorem GivesF.any {w w' : World} {e : Ending} {l : List Fl} (h : GivesF w w' e l) : ∃ u, e = .returned u ∧ HasF w' w.heap.size u l ∧ Below w.heap.size w w' := by
  obtain ⟨⟨g, he, hh⟩, hb⟩ := h
  exact ⟨_, he, hh, hb⟩
theorem woA_length (l : List Fl) (n : ByteArray) : (woA l n).length ≤ 30 := by
  unfold woA
  split
  · rename_i h; exact Nat.le_trans (wo_length l n) (fldsOk_parts h.1).1
  · simp
theorem gives_none {w w1 : World} (hb : Below w.heap.size w w1) : GivesF w (w1.alloc (.cells #[] 81)) (.returned (.slice (some ⟨w1.heap.size, 0, none⟩) 0 0)) [] :=
  ⟨⟨w1.heap.size, rfl, ((OwnsF.born w1).low hb.size).has⟩, hb.alloc hb.size _⟩

end Go.Proofs.YteibacmohplblaaGreatDoor
namespace Go.Proofs.YteibacmohplblaaGreatDoor
open Go.RowKit Go.Sort Go.Maps

/-- One field appended to an owned slice, as one step of a region that draws its order. -/
theorem step_pushF {ops : Array Oper} {o : Oper} {a : Act} {w : World} {K : Act → World → Prop} {Q : Exit → Act → World → Prop} {E : Prop} (hgd : o.guard = none) (s x : Operand)
    (ho : o.op = .call { callee := .builtin .append, args := #[s, x], argTypes := #[24, 24] }) (B : Nat) (v : Value) (l : List Fl) (f : Fl) (hs : a.eval s = v) (hown : OwnsF w B v l)
    (b : Nat) (hx : a.eval x = .slice (some ⟨b, 0, none⟩) 1 1) (c0 : w.cell? ⟨b, 0, none⟩ = some (.string f.1)) (c1 : w.cell? ⟨b, 1, none⟩ = some (.string f.2)) (hlen : l.length ≤ 1000000000000) (hB : B ≤ w.heap.size)
    (h : ∀ v' w', OwnsF w' B v' (l ++ [f]) → w.grownBy w' v.ownBlock → K (a.put o.dst v') w') :
    if Region.wanted o (yielded ops a.tmps) = true then Oper.wp Tryz.prog o a w K Q else E := by
  have hw : Region.wanted o (yielded ops a.tmps) = true := by simp [Region.wanted, hgd]
  rw [if_pos hw]
  obtain ⟨i0, hi, hz0, hz1, hz2⟩ := info_parts Tryz.infoF
  refine wp_append_own w s x 24 ho B 81 i0 (.agg #[.string ⟨#[]⟩, .string ⟨#[]⟩]) 2 32 Tryz.underlying24 hi hz0 hz1 hz2 rfl (by decide) v l.length (cellsF l) hs hown ⟨b, 0, none⟩ 1 1 [.string f.1, .string f.2] hx rfl ?_
    (by intro u hu; simp at hu; rcases hu with rfl | rfl <;> rfl) (by unfold maxLen; omega) (by omega) hB ?_
  · intro j u hu
    rw [addr_add, Nat.zero_add]
    match j, hu with
    | 0, hu => simp at hu; subst hu; exact c0
    | 1, hu => simp at hu; subst hu; exact c1
  intro v' w' h1 h2 _
  refine h v' w' ?_ h2
  unfold OwnsF
  rw [cellsF_append, List.length_append]
  exact h1

theorem cells_of (l : List Fl) {w : World} {g : Nat} (hc : ∀ j (hj : j < l.length), w.cell? ⟨g, j * 2, none⟩ = some (.string l[j].1) ∧ w.cell? ⟨g, j * 2 + 1, none⟩ = some (.string l[j].2)) : ∀ j u, (cellsF l)[j]? = some u → w.cell? ((⟨g, 0, none⟩ : Addr).add j) = some u := by
  intro j u hu
  have hj : j < (cellsF l).length := (List.getElem?_eq_some_iff.1 hu).1
  rw [cellsF_length] at hj
  rw [addr_add, Nat.zero_add, ← hu]
  obtain ⟨c1, c2⟩ := cellsF_at l (j / 2) (by omega)
  obtain ⟨d1, d2⟩ := hc (j / 2) (by omega)
  have h2 : j = j / 2 * 2 ∨ j = j / 2 * 2 + 1 := by omega
  rcases h2 with h2 | h2
  · rw [h2, c1]; exact d1
  · rw [h2, c2]; exact d2

/-- One field appended to a slice that has no room. -/
theorem wpList_growF {ops : Array Oper} {rest : List Oper} {o : Oper} {a : Act} {Q : Exit → Act → World → Prop} (w : World) (hgd : o.guard = none) (s x : Operand)
    (ho : o.op = .call { callee := .builtin .append, args := #[s, x], argTypes := #[24, 24] }) (B g : Nat) (l : List Fl) (f : Fl) (hs : a.eval s = .slice (some ⟨g, 0, none⟩) l.length l.length)
    (hown : HasF w B (.slice (some ⟨g, 0, none⟩) l.length l.length) l) (hx : a.eval x = .slice (some ⟨w.heap.size, 0, none⟩) 1 1) (hlen : l.length ≤ 1000)
    (h : ∀ g' cap w', OwnsF w' w.heap.size (.slice (some ⟨g', 0, none⟩) (l.length + 1) cap) (l ++ [f]) → l.length + 1 ≤ cap → w.grownBy w' none → wpList Tryz.prog ops Q rest (a.put o.dst (.slice (some ⟨g', 0, none⟩) (l.length + 1) cap)) w') :
    wpList Tryz.prog ops Q (o :: rest) a (w.alloc (.cells #[.string f.1, .string f.2] 81)) := by
  obtain ⟨i0, hi, hz0, hz1, hz2⟩ := info_parts Tryz.infoF
  have hk : HasF (w.alloc (.cells #[.string f.1, .string f.2] 81)) B (.slice (some ⟨g, 0, none⟩) l.length l.length) l := hown.kept ((Below.refl _ w).alloc (Nat.le_refl _) _)
  have hr := run_append_grow (P := Tryz.prog) (w.alloc (.cells #[.string f.1, .string f.2] 81)) 24 o.type 81 i0 (.agg #[.string ⟨#[]⟩, .string ⟨#[]⟩]) Tryz.underlying24 hi hz0 ⟨g, 0, none⟩ l.length l.length (cellsF l) (by rw [cellsF_length, hz1]) (cells_of l hk.at)
    ⟨w.heap.size, 0, none⟩ 1 1 [.string f.1, .string f.2] (by rw [hz1]; rfl) (by
      intro j u hu
      rw [addr_add, Nat.zero_add, World.cell?_alloc_mark]
      simpa using hu) (by omega) (by omega) (by rw [hz2]; exact growslice_fits (by omega) (by omega))
  refine wpList_plain hgd fun K hK => ?_
  unfold Oper.wp
  simp [execOp, ho, resolve, invoke, builtin, hs, hx, hr, Result.andThen]
  generalize hcap : grownCap (w.alloc (.cells #[.string f.1, .string f.2] 81)) (l.length + 1) l.length 81 = cap
  have hge : l.length + 1 ≤ cap := by rw [← hcap]; exact grownCap_ge _ _ _ _
  have hle : cap ≤ maxLen := by rw [← hcap]; exact grownCap_le_maxLen _ _ _ _ (by unfold maxLen; omega)
  refine hK _ _ (h _ cap _ ?_ hge ⟨rfl, rfl, rfl, by simp; omega, fun k hk _ => ?_⟩)
  · refine ⟨by rw [cellsF_length], .inr ⟨_, cap, _, by simp, by simp, heap_alloc_new _ _, by simpa using hge, hle, ?_, ?_⟩⟩
    · have := cellsF_length l
      simp [Builtin.zeroCells, Value.cells, this]
      omega
    · rw [cellsF_append]
      have := cellsF_length l
      rw [Array.toList_append]
      exact List.take_left' (l₁ := cellsF l ++ [.string f.1, .string f.2]) (i := (l ++ [f]).length * 2) (by simp [this]; omega)
  · rw [Below.heap_alloc _ _ _ (show k < (w.alloc (.cells #[.string f.1, .string f.2] 81)).drew.heap.size by simp; omega)]
    exact Below.heap_alloc w (.cells #[.string f.1, .string f.2] 81) _ hk
end Go.Proofs.YteibacmohplblaaGreatDoor
namespace Go.Proofs.YteibacmohplblaaGreatDoor
open Go.RowKit Go.Sort

theorem step_call {ops : Array Oper} {o : Oper} {a : Act} {w : World} {K : Act → World → Prop} {Q : Exit → Act → World → Prop} {E : Prop} (hgd : o.guard = none) (f : FuncId) (xs : Array Operand) (ts : Array TypeId)
    (ho : o.op = .call { callee := .value (.func f), args := xs, argTypes := ts }) (vals : Array Value) (hv : xs.map a.eval = vals) (hent : ∀ w, (callFunc f vals).run Tryz.prog w = .ok (.enter f vals) w) (R : Value → World → Prop)
    (hc : Calls Tryz.prog f vals w fun e w' => ∃ v, e = .returned v ∧ R v w') (h : ∀ v w', R v w' → K (a.put o.dst v) w') :
    if Region.wanted o (yielded ops a.tmps) = true then Oper.wp Tryz.prog o a w K Q else E := by
  have hw : Region.wanted o (yielded ops a.tmps) = true := by simp [Region.wanted, hgd]
  rw [if_pos hw]
  unfold Oper.wp
  have he : (execOp a.eval o).run Tryz.prog w = .ok (.enter f vals) w := by
    simp [execOp, ho, resolve, invoke, hv]
    rw [show a.eval (Operand.func f) = _ from rfl]
    simp [Act.eval, Deferred.ofValue, hent]
  rw [he, Oper.upon_enter]
  refine hc.mono ?_
  rintro e w' ⟨v, rfl, hr⟩
  exact h v w' hr
theorem step_call2 {ops : Array Oper} {o : Oper} {a : Act} {w : World} {K : Act → World → Prop} {Q : Exit → Act → World → Prop} {E : Prop} (hgd : o.guard = none) (f : FuncId) (x0 x1 : Operand) (ts : Array TypeId)
    (ho : o.op = .call { callee := .value (.func f), args := #[x0, x1], argTypes := ts }) (v0 v1 : Value) (h0 : a.eval x0 = v0) (h1 : a.eval x1 = v1) (hent : ∀ w, (callFunc f #[v0, v1]).run Tryz.prog w = .ok (.enter f #[v0, v1]) w) (R : Value → World → Prop)
    (hc : Calls Tryz.prog f #[v0, v1] w fun e w' => ∃ v, e = .returned v ∧ R v w') (h : ∀ v w', R v w' → K (a.put o.dst v) w') :
    if Region.wanted o (yielded ops a.tmps) = true then Oper.wp Tryz.prog o a w K Q else E :=
  step_call hgd f #[x0, x1] ts ho #[v0, v1] (by simp [h0, h1]) hent R hc h
theorem step_call1 {ops : Array Oper} {o : Oper} {a : Act} {w : World} {K : Act → World → Prop} {Q : Exit → Act → World → Prop} {E : Prop} (hgd : o.guard = none) (f : FuncId) (x0 : Operand) (ts : Array TypeId)
    (ho : o.op = .call { callee := .value (.func f), args := #[x0], argTypes := ts }) (v0 : Value) (h0 : a.eval x0 = v0) (hent : ∀ w, (callFunc f #[v0]).run Tryz.prog w = .ok (.enter f #[v0]) w) (R : Value → World → Prop)
    (hc : Calls Tryz.prog f #[v0] w fun e w' => ∃ v, e = .returned v ∧ R v w') (h : ∀ v w', R v w' → K (a.put o.dst v) w') :
    if Region.wanted o (yielded ops a.tmps) = true then Oper.wp Tryz.prog o a w K Q else E :=
  step_call hgd f #[x0] ts ho #[v0] (by simp [h0]) hent R hc h
end Go.Proofs.YteibacmohplblaaGreatDoor
