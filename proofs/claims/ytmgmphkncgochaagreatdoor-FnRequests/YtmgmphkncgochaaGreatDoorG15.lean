/-
  The contracts of the program's parts that leave fields out.
  The contracts of Without, the specification's and the program's.
  One field appended: in a region that draws its order; to a slice that has no room.
-/
import Derived.Test.YtmgmphkncgochaaGreatDoorG14
import Derived.Laws.Append
namespace Go.Proofs.YtmgmphkncgochaaGreatDoor
open Go.RowKit Go.Sort Go.Maps

theorem clone (s : ByteArray) (w : World) (hs : s.size ≤ 1048576) :
    Calls Tryz.prog 93 #[.string s] w fun e w' => e = .returned (.string s) ∧ Below w.heap.size w w' := by
  go_enter Tryz.func93, Tryz.ntmps93
  go_wp2_with (go_at_call 120; refine (Tryz.stringslite_Clone s _ (by omega)).mono ?_; rintro e w1 ⟨rfl, hb1⟩)
  go_ret
  exact ⟨rfl, hb1⟩

set_option maxHeartbeats 1000000 in
theorem implNew (n v : ByteArray) (w : World) (hn : n.size ≤ 1048576) (hv : v.size ≤ 1048576) :
    Calls Tryz.prog 127 #[.string n, .string v] w fun e w' => e = .returned (.agg #[.string n, .string v]) ∧ Below w.heap.size w w' := by
  have b0 : (w.alloc (.cells #[.string ⟨#[]⟩, .string ⟨#[]⟩] 81)).heap[w.heap.size]? = some (.cells #[.string ⟨#[]⟩, .string ⟨#[]⟩] 81) := heap_alloc_new w _
  have bl := box_lt w (.cells #[.string ⟨#[]⟩, .string ⟨#[]⟩] 81)
  have hbb := (Below.refl w.heap.size w).alloc (Nat.le_refl _) (.cells #[.string ⟨#[]⟩, .string ⟨#[]⟩] 81)
  go_enter Tryz.func127, Tryz.ntmps127
  go_wp2_with fail
  refine (clone n _ (by omega)).mono ?_
  rintro e w1 ⟨rfl, hb1⟩
  go_wp2_with fail
  refine (clone v _ (by omega)).mono ?_
  rintro e w2 ⟨rfl, hb2⟩
  have b2 : w2.heap[w.heap.size]? = some (.cells #[.string ⟨#[]⟩, .string ⟨#[]⟩] 81) := by
    rw [hb2.block _ (Nat.lt_of_lt_of_le bl hb1.size), hb1.block _ bl]; exact b0
  have c0 : w2.cell? ⟨w.heap.size, 0, none⟩ = some (.string ⟨#[]⟩) := by rw [cell_of_row w2 _ 0 _ _ _ b2]; rfl
  have c1 : w2.cell? ⟨w.heap.size, 1, none⟩ = some (.string ⟨#[]⟩) := by rw [cell_of_row w2 _ 1 _ _ _ b2]; rfl
  have f0 := frozen_of_row w2 w.heap.size 0 _ _ b2
  have f1 := frozen_of_row w2 w.heap.size 1 _ _ b2
  have hbw : Below w.heap.size w w2 := (hbb.trans (hb1.mono (Nat.le_of_lt bl))).trans (hb2.mono (Nat.le_trans (Nat.le_of_lt bl) hb1.size))
  clear b2 b0 hb1 hb2 hbb
  go_wp2
  refine bodyPost_ret (v := .agg #[.string n, .string v]) (by simp [results, Tryz.results127, go_sem, c0, c1]) rfl ⟨rfl, ?_⟩
  exact (hbw.setCell (Nat.le_refl _) _).setCell (Nat.le_refl _) _

theorem implRoom (g n cap : Nat) (w : World) (h : n ≤ cap) :
    Calls Tryz.prog 122 #[.slice (some ⟨g, 0, none⟩) n cap] w fun e w' => e = .returned (.slice (some ⟨g, 0, none⟩) n n) ∧ w = w' := by
  go_enter Tryz.func122, Tryz.ntmps122
  go_wp2
  go_ret
  exact ⟨rfl, rfl⟩

/-- What is left without the names acc. -/
def restB (acc : List ByteArray) (f : Fl) : Bool := !(acc.any fun n => decide (n = lowS f.1))
theorem OwnsF.solid {w : World} {B : Nat} {v : Value} {l : List Fl} (h : OwnsF w B v l) (hl : 0 < l.length) : ∃ g cap, v = .slice (some ⟨g, 0, none⟩) l.length cap ∧ l.length ≤ cap ∧ cap ≤ maxLen := by
  rcases h.2 with ⟨_, h0⟩ | ⟨g, cap, cur, rfl, hb, hg, hc, hm, rest⟩
  · omega
  · exact ⟨g, cap, rfl, hc, hm⟩

set_option maxHeartbeats 1000000 in
theorem implAllBut (v : Value) (l : List Fl) (b : Nat) (acc : List ByteArray) (w : World) (hf : Fls w v l) (hok : fldsOk l = true) (hset : SetIs w b acc) :
    Calls Tryz.prog 100 #[v, .map (some b)] w fun e w' => (∃ g, e = .returned (.slice (some ⟨g, 0, none⟩) (l.filter (restB acc)).length (l.filter (restB acc)).length) ∧ HasF w' w.heap.size (.slice (some ⟨g, 0, none⟩) (l.filter (restB acc)).length (l.filter (restB acc)).length) (l.filter (restB acc))) ∧ Below w.heap.size w w' := by
  obtain ⟨a, cap, rfl, h1, h2, h3⟩ := hf
  unfold maxLen at h2
  obtain ⟨hl, hfs⟩ := fldsOk_parts hok
  obtain ⟨i0, hi, hz0, hz1, hz2⟩ := info_parts Tryz.infoF
  obtain ⟨w0, hrun, hown, hgr⟩ := run_make_own (P := Tryz.prog) w w.heap.size 24 81 i0 (.agg #[.string ⟨#[]⟩, .string ⟨#[]⟩]) 2 Tryz.underlying24 hi hz0 hz1 .i64 .i64 l.length (by rw [hz2]; omega) (by unfold maxLen; omega) (Nat.le_refl _)
  have hown0 : OwnsF w0 w.heap.size (.slice (some ⟨w.heap.size, 0, none⟩) 0 l.length) [] := hown
  have hb0 : Below w.heap.size w w0 := (Below.refl _ w).grown hgr (Nat.le_refl _) (fun j hj => by cases hj)
  clear hown hgr hi hz0 hz1 hz2
  go_enter Tryz.func100, Tryz.ntmps100
  go_wp2
  go_loopw [5, 13] (fun u i wr => ∃ (k g c : Nat), k ≤ l.length ∧ i = .int .i64 k ∧ u = .slice (some ⟨g, 0, none⟩) ((l.take k).filter (restB acc)).length c ∧ ((l.take k).filter (restB acc)).length ≤ c ∧ c ≤ maxLen ∧ OwnsF wr w.heap.size u ((l.take k).filter (restB acc)) ∧ Below w.heap.size w wr) (fun _ i _ => l.length - (intOf i).toNat)
  case atStart => exact ⟨0, w.heap.size, l.length, Nat.zero_le _, rfl, rfl, Nat.zero_le _, by unfold maxLen; omega, hown0, hb0⟩
  case round =>
    clear hown0 hb0 hrun
    obtain ⟨k, gu, c, hk, rfl, rfl, hcl, hcm, hown, hb⟩ := hrel
    have hfl := filter_le l k (restB acc)
    by_cases hlt : k < l.length
    · obtain ⟨g, o, rfl, hg, hc⟩ := h3 (by omega)
      have c1 := (hb.cell (p := ⟨g, o + k * 2, none⟩) hg).trans (hc k hlt).1
      have c2 := (hb.cell (p := ⟨g, o + k * 2 + 1, none⟩) hg).trans (hc k hlt).2
      have hsz := fldOk_size (hfs l[k] (List.getElem_mem hlt))
      have hs1 := hset.kept hb
      have hsa := hs1.kept ((Below.refl wr.heap.size wr).alloc (Nat.le_refl _) (.cells #[.string l[k].1, .string l[k].2] 81))
      cases hr : restB acc l[k] with
      | true =>
        have HN : Hid ((l.take (k + 1)).filter (restB acc) = (l.take k).filter (restB acc) ++ [l[k]]) := filter_yes hlt hr
        have hany : (acc.any fun n => decide (n = lowS l[k].1)) = false := by unfold restB at hr; simpa using hr
        clear hr
        generalize l[k] = f at c1 c2 hsz HN hany hsa
        generalize (l.take k).filter (restB acc) = s0 at hown hcl hfl HN
        have d0 := box0 wr f 81
        have d1 := box1 wr f 81
        have bl := box_lt wr (.cells #[.string f.1, .string f.2] 81)
        have hba := hb.alloc hb.size (.cells #[.string f.1, .string f.2] 81)
        have hoa := hown.alloc (.cells #[.string f.1, .string f.2] 81)
        clear hc h3 hfs
        go_wp2_with (first
          | (go_at_call 126; refine (implHas b acc f.1 _ hsa (by omega)).mono ?_; rw [hany]; rintro e w1 ⟨rfl, hb1⟩; have e0 := (hb1.cell (p := ⟨wr.heap.size, 0, none⟩) bl).trans d0; have e1 := (hb1.cell (p := ⟨wr.heap.size, 1, none⟩) bl).trans d1; have ho1 := hoa.kept hb1; have hb01 := hba.trans (hb1.mono hba.size))
          | (go_at_call 127; refine (implNew f.1 f.2 _ (by omega) (by omega)).mono ?_; rintro e w2 ⟨rfl, hb2⟩; have ho2 := ho1.kept hb2; have hb02 := hb01.trans (hb2.mono hb01.size))
          | (at_builtin; refine wpList_pushF _ rfl (.tmp 22) (.tmp 28) rfl w.heap.size _ _ f rfl ho2 rfl (by omega) hb02.size ?_; intro v3 w3 ho3 hg3))
        have hb03 := hb02.grown hg3 hb02.size (OwnsF.from ho2)
        obtain ⟨g3, c3, rfl, hc3, hm3⟩ := ho3.solid (by simp)
        rw [← HN.out] at ho3 hc3
        clear hown hoa ho1 ho2 hb hb1 hb2 hba hb01 hb02 hg3 c1 c2 d0 d1 e0 e1 hs1 hsa
        go_roundw
        case rel => exact ⟨k + 1, g3, c3, by omega, by go_num, by rw [HN.out], hc3, hm3, by rw [HN.out] at ho3 ⊢; exact ho3, hb03⟩
        case measure => simp [intOf]; omega
      | false =>
        have HN : Hid ((l.take (k + 1)).filter (restB acc) = (l.take k).filter (restB acc)) := filter_no hlt hr
        have hany : (acc.any fun n => decide (n = lowS l[k].1)) = true := by unfold restB at hr; simpa using hr
        clear hr
        generalize l[k] = f at c1 c2 hsz HN hany hsa
        generalize (l.take k).filter (restB acc) = s0 at hown hcl hfl HN
        have d0 := box0 wr f 81
        have hba := hb.alloc hb.size (.cells #[.string f.1, .string f.2] 81)
        have hoa := hown.alloc (.cells #[.string f.1, .string f.2] 81)
        clear hc h3 hfs
        go_wp2_with (go_at_call 126; refine (implHas b acc f.1 _ hsa (by omega)).mono ?_; rw [hany]; rintro e w1 ⟨rfl, hb1⟩; have ho1 := hoa.kept hb1; have hb01 := hba.trans (hb1.mono hba.size))
        clear hown hoa hb hb1 hba c1 c2 d0 hs1 hsa
        go_roundw
        case rel => exact ⟨k + 1, gu, c, by omega, by go_num, by rw [HN.out], by rw [HN.out]; exact hcl, hcm, by rw [HN.out]; exact ho1, hb01⟩
        case measure => simp [intOf]; omega
    · have HN : Hid ((l.take k).filter (restB acc) = l.filter (restB acc)) := filter_end hlt
      rw [HN.out] at hcl hown
      rw [HN.out]
      have hr := fun w => implRoom gu (l.filter (restB acc)).length c w hcl
      go_wp2_with (go_at_call 122; refine (hr _).mono ?_; rintro e w1 ⟨rfl, rfl⟩)
      go_ret
      exact ⟨⟨gu, rfl, hown.has.cut rfl⟩, hb⟩
end Go.Proofs.YtmgmphkncgochaaGreatDoor
namespace Go.Proofs.YtmgmphkncgochaaGreatDoor
open Go.RowKit Go.Sort Go.Maps

set_option maxHeartbeats 1000000 in
theorem specWoF (v : Value) (l : List Fl) (n : ByteArray) (w : World) (h : Fls w v l) (hok : fldsOk l = true) (hn : n.size ≤ 1048576) :
    Calls Tryz.prog 105 #[v, .string n] w fun e w' => ∃ u, e = .returned u ∧ OwnsF w' w.heap.size u (wo l n) ∧ Below w.heap.size w w' := by
  obtain ⟨a, cap, rfl, h1, h2, h3⟩ := h
  unfold maxLen at h2
  obtain ⟨hl, hfs⟩ := fldsOk_parts hok
  have hnm : n.size ≤ maxLen := by unfold maxLen; omega
  go_enter Tryz.func105, Tryz.ntmps105
  go_wp2
  go_loopw [5, 6] (fun u i wr => ∃ (k : Nat), k ≤ l.length ∧ i = .int .i64 k ∧ OwnsF wr w.heap.size u ((l.take k).filter (keepB n)) ∧ Below w.heap.size w wr) (fun _ i _ => l.length - (intOf i).toNat)
  case atStart => exact ⟨0, Nat.zero_le _, rfl, OwnsF.born w, (Below.refl _ _).alloc (Nat.le_refl _) _⟩
  case round =>
    obtain ⟨k, hk, rfl, hown, hb⟩ := hrel
    have hfl := filter_le l k (keepB n)
    by_cases hlt : k < l.length
    · obtain ⟨g, o, rfl, hg, hc⟩ := h3 (by omega)
      have c1 := (hb.cell (p := ⟨g, o + k * 2, none⟩) hg).trans (hc k hlt).1
      have c2 := (hb.cell (p := ⟨g, o + k * 2 + 1, none⟩) hg).trans (hc k hlt).2
      have hsz := fldOk_size (hfs l[k] (List.getElem_mem hlt))
      have hgr : g < wr.heap.size := Nat.lt_of_lt_of_le hg hb.size
      by_cases he : lowS l[k].1 = lowS n
      · have hq := same_yes he
        have HN : Hid ((l.take (k + 1)).filter (keepB n) = (l.take k).filter (keepB n)) := filter_no hlt (keepB_no he)
        generalize l[k] = f at c1 c2 hsz hq he
        have z1 : f.1.size ≤ maxLen := by unfold maxLen; omega
        clear hc h3 hfs he
        go_wp2_with fail
        refine (specLow _ _ z1).mono ?_
        rintro e w1 ⟨rfl, hb1⟩
        go_wp2_with fail
        refine (specLow _ _ hnm).mono ?_
        rintro e w2 ⟨rfl, hb2⟩
        have ho2 := (hown.kept hb1).kept hb2
        have hb02 : Below w.heap.size w w2 := (hb.trans (hb1.mono hb.size)).trans (hb2.mono (Nat.le_trans hb.size hb1.size))
        rw [← HN.out] at ho2
        clear c1 c2 hb hb1 hb2 hown
        go_wp2
        go_roundw
        case rel => exact ⟨k + 1, by omega, by go_num, ho2, hb02⟩
        case measure => simp [intOf]; omega
      · have hq := same_no he
        have HN : Hid ((l.take (k + 1)).filter (keepB n) = (l.take k).filter (keepB n) ++ [l[k]]) := filter_yes hlt (keepB_yes he)
        generalize l[k] = f at c1 c2 hsz hq he HN
        have z1 : f.1.size ≤ maxLen := by unfold maxLen; omega
        clear hc h3 hfs he
        go_wp2_with fail
        refine (specLow _ _ z1).mono ?_
        rintro e w1 ⟨rfl, hb1⟩
        have d1 := (hb1.cell (p := ⟨g, o + k * 2, none⟩) hgr).trans c1
        have d2 := (hb1.cell (p := ⟨g, o + k * 2 + 1, none⟩) hgr).trans c2
        have hgr1 := Nat.lt_of_lt_of_le hgr hb1.size
        go_wp2_with fail
        refine (specLow _ _ hnm).mono ?_
        rintro e w2 ⟨rfl, hb2⟩
        have e1 := (hb2.cell (p := ⟨g, o + k * 2, none⟩) hgr1).trans d1
        have e2 := (hb2.cell (p := ⟨g, o + k * 2 + 1, none⟩) hgr1).trans d2
        have ho2 := (hown.kept hb1).kept hb2
        have hb02 : Below w.heap.size w w2 := (hb.trans (hb1.mono hb.size)).trans (hb2.mono (Nat.le_trans hb.size hb1.size))
        clear c1 c2 d1 d2 hb hb1 hb2 hown
        go_wp2_with (at_builtin; refine wpList_pushF _ rfl (.tmp 23) (.tmp 28) rfl w.heap.size _ _ f rfl ho2 rfl (by omega) hb02.size ?_; intro v3 w3 ho3 hg3)
        have hb03 := hb02.grown hg3 hb02.size (OwnsF.from ho2)
        rw [← HN.out] at ho3
        clear e1 e2 ho2 hb02 hg3
        go_roundw
        case rel => exact ⟨k + 1, by omega, by go_num, ho3, hb03⟩
        case measure => simp [intOf]; omega
    · rw [filter_end hlt] at hown
      go_wp2
      go_ret
      exact ⟨_, rfl, hown, hb⟩

theorem rest_one (l : List Fl) (n : ByteArray) : l.filter (restB [lowS n]) = wo l n := by
  unfold wo
  congr 1
  funext f
  unfold restB keepB
  by_cases h : lowS f.1 = lowS n
  · simp [h]
  · have h' : ¬ lowS n = lowS f.1 := fun e => h e.symm
    simp [h, h']
theorem strs_one (w : World) (n : ByteArray) : Strs ((w.alloc (.map #[] 0)).alloc (.cells #[.string n] 9)) (.slice (some ⟨w.heap.size + 1, 0, none⟩) 1 1) [n] := by
  have h := strs_lit (w.alloc (.map #[] 0)) [n] (by simp)
  have e : (w.alloc (.map #[] 0)).heap.size = w.heap.size + 1 := by simp
  rw [e] at h
  exact h
/-- A slice of fields as the program answers it. -/
def GivesF (w w' : World) (e : Ending) (l : List Fl) : Prop := (∃ g, e = .returned (.slice (some ⟨g, 0, none⟩) l.length l.length) ∧ HasF w' w.heap.size (.slice (some ⟨g, 0, none⟩) l.length l.length) l) ∧ Below w.heap.size w w'
theorem GivesF.any {w w' : World} {e : Ending} {l : List Fl} (h : GivesF w w' e l) : ∃ u, e = .returned u ∧ HasF w' w.heap.size u l ∧ Below w.heap.size w w' := by
  obtain ⟨⟨g, he, hh⟩, hb⟩ := h
  exact ⟨_, he, hh, hb⟩
theorem woA_length (l : List Fl) (n : ByteArray) : (woA l n).length ≤ 30 := by
  unfold woA
  split
  · rename_i h; exact Nat.le_trans (wo_length l n) (fldsOk_parts h.1).1
  · simp
theorem gives_none {w w1 : World} (hb : Below w.heap.size w w1) : GivesF w (w1.alloc (.cells #[] 81)) (.returned (.slice (some ⟨w1.heap.size, 0, none⟩) 0 0)) [] :=
  ⟨⟨w1.heap.size, rfl, ((OwnsF.born w1).low hb.size).has⟩, hb.alloc hb.size _⟩

end Go.Proofs.YtmgmphkncgochaaGreatDoor
namespace Go.Proofs.YtmgmphkncgochaaGreatDoor
open Go.RowKit Go.Sort Go.Maps

/-- One field appended to an owned slice, as one step of a region that draws its order. -/
theorem step_pushF {ops : Array Oper} {o : Oper} {a : Act} {w : World} {K : Act → World → Prop} {Q : Exit → Act → World → Prop} {E : Prop} (hgd : o.guard = none) (s x : Operand)
    (ho : o.op = .call { callee := .builtin .append, args := #[s, x], argTypes := #[24, 24] }) (B : Nat) (v : Value) (l : List Fl) (f : Fl) (hs : a.eval s = v) (hown : OwnsF w B v l)
    (b : Nat) (hx : a.eval x = .slice (some ⟨b, 0, none⟩) 1 1) (c0 : w.cell? ⟨b, 0, none⟩ = some (.string f.1)) (c1 : w.cell? ⟨b, 1, none⟩ = some (.string f.2)) (hlen : l.length ≤ 1000000000000) (hB : B ≤ w.heap.size)
    (h : ∀ v' w', OwnsF w' B v' (l ++ [f]) → w.grownBy w' v.ownBlock → K (a.put o.dst v') w') :
    if Region.wanted o (yielded ops a.tmps) = true then Oper.wp Tryz.prog o a w K Q else E := by
  have hw : Region.wanted o (yielded ops a.tmps) = true := by simp [Region.wanted, hgd]
  rw [if_pos hw]
  obtain ⟨i0, hi, hz0, hz1, hz2⟩ := info_parts Tryz.infoF
  refine wp_append_own w s x 24 ho B 81 i0 (.agg #[.string ⟨#[]⟩, .string ⟨#[]⟩]) 2 32 Tryz.underlying24 hi hz0 hz1 hz2 rfl (by decide) v l.length (cellsF l) hs hown ⟨b, 0, none⟩ 1 1 [.string f.1, .string f.2] hx rfl ?_
    (by intro u hu; simp at hu; rcases hu with rfl | rfl <;> rfl) (by unfold maxLen; omega) (by omega) hB ?_
  · intro j u hu
    rw [addr_add, Nat.zero_add]
    match j, hu with
    | 0, hu => simp at hu; subst hu; exact c0
    | 1, hu => simp at hu; subst hu; exact c1
  intro v' w' h1 h2 _
  refine h v' w' ?_ h2
  unfold OwnsF
  rw [cellsF_append, List.length_append]
  exact h1

theorem cells_of (l : List Fl) {w : World} {g : Nat} (hc : ∀ j (hj : j < l.length), w.cell? ⟨g, j * 2, none⟩ = some (.string l[j].1) ∧ w.cell? ⟨g, j * 2 + 1, none⟩ = some (.string l[j].2)) : ∀ j u, (cellsF l)[j]? = some u → w.cell? ((⟨g, 0, none⟩ : Addr).add j) = some u := by
  intro j u hu
  have hj : j < (cellsF l).length := (List.getElem?_eq_some_iff.1 hu).1
  rw [cellsF_length] at hj
  rw [addr_add, Nat.zero_add, ← hu]
  obtain ⟨c1, c2⟩ := cellsF_at l (j / 2) (by omega)
  obtain ⟨d1, d2⟩ := hc (j / 2) (by omega)
  have h2 : j = j / 2 * 2 ∨ j = j / 2 * 2 + 1 := by omega
  rcases h2 with h2 | h2
  · rw [h2, c1]; exact d1
  · rw [h2, c2]; exact d2

/-- One field appended to a slice that has no room. -/
theorem wpList_growF {ops : Array Oper} {rest : List Oper} {o : Oper} {a : Act} {Q : Exit → Act → World → Prop} (w : World) (hgd : o.guard = none) (s x : Operand)
    (ho : o.op = .call { callee := .builtin .append, args := #[s, x], argTypes := #[24, 24] }) (B g : Nat) (l : List Fl) (f : Fl) (hs : a.eval s = .slice (some ⟨g, 0, none⟩) l.length l.length)
    (hown : HasF w B (.slice (some ⟨g, 0, none⟩) l.length l.length) l) (hx : a.eval x = .slice (some ⟨w.heap.size, 0, none⟩) 1 1) (hlen : l.length ≤ 1000)
    (h : ∀ g' cap w', OwnsF w' w.heap.size (.slice (some ⟨g', 0, none⟩) (l.length + 1) cap) (l ++ [f]) → l.length + 1 ≤ cap → w.grownBy w' none → wpList Tryz.prog ops Q rest (a.put o.dst (.slice (some ⟨g', 0, none⟩) (l.length + 1) cap)) w') :
    wpList Tryz.prog ops Q (o :: rest) a (w.alloc (.cells #[.string f.1, .string f.2] 81)) := by
  obtain ⟨i0, hi, hz0, hz1, hz2⟩ := info_parts Tryz.infoF
  have hk : HasF (w.alloc (.cells #[.string f.1, .string f.2] 81)) B (.slice (some ⟨g, 0, none⟩) l.length l.length) l := hown.kept ((Below.refl _ w).alloc (Nat.le_refl _) _)
  have hr := run_append_grow (P := Tryz.prog) (w.alloc (.cells #[.string f.1, .string f.2] 81)) 24 o.type 81 i0 (.agg #[.string ⟨#[]⟩, .string ⟨#[]⟩]) Tryz.underlying24 hi hz0 ⟨g, 0, none⟩ l.length l.length (cellsF l) (by rw [cellsF_length, hz1]) (cells_of l hk.at)
    ⟨w.heap.size, 0, none⟩ 1 1 [.string f.1, .string f.2] (by rw [hz1]; rfl) (by
      intro j u hu
      rw [addr_add, Nat.zero_add, World.cell?_alloc_mark]
      simpa using hu) (by omega) (by omega) (by rw [hz2]; exact growslice_fits (by omega) (by omega))
  refine wpList_plain hgd fun K hK => ?_
  unfold Oper.wp
  simp [execOp, ho, resolve, invoke, builtin, hs, hx, hr, Result.andThen]
  generalize hcap : grownCap (w.alloc (.cells #[.string f.1, .string f.2] 81)) (l.length + 1) l.length 81 = cap
  have hge : l.length + 1 ≤ cap := by rw [← hcap]; exact grownCap_ge _ _ _ _
  have hle : cap ≤ maxLen := by rw [← hcap]; exact grownCap_le_maxLen _ _ _ _ (by unfold maxLen; omega)
  refine hK _ _ (h _ cap _ ?_ hge ⟨rfl, rfl, rfl, by simp; omega, fun k hk _ => ?_⟩)
  · refine ⟨by rw [cellsF_length], .inr ⟨_, cap, _, by simp, by simp, heap_alloc_new _ _, by simpa using hge, hle, ?_, ?_⟩⟩
    · have := cellsF_length l
      simp [Builtin.zeroCells, Value.cells, this]
      omega
    · rw [cellsF_append]
      have := cellsF_length l
      rw [Array.toList_append]
      exact List.take_left' (l₁ := cellsF l ++ [.string f.1, .string f.2]) (i := (l ++ [f]).length * 2) (by simp [this]; omega)
  · rw [Below.heap_alloc _ _ _ (show k < (w.alloc (.cells #[.string f.1, .string f.2] 81)).drew.heap.size by simp; omega)]
    exact Below.heap_alloc w (.cells #[.string f.1, .string f.2] 81) _ hk
end Go.Proofs.YtmgmphkncgochaaGreatDoor
