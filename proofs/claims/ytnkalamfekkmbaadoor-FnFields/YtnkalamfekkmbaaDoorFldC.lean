/-
  The contracts of Without, the specification's and the program's.
-/
import Derived.Test.YtnkalamfekkmbaaDoorFldB
namespace Go.Proofs.YtnkalamfekkmbaaDoor
open Go.RowKit Go.Sort Go.Maps

set_option maxHeartbeats 1000000 in
theorem specWoF (v : Value) (l : List Fl) (n : ByteArray) (w : World) (h : Fls w v l) (hok : fldsOk l = true) (hn : n.size ≤ 1048576) :
    Calls Tryd.prog 63 #[v, .string n] w fun e w' => ∃ u, e = .returned u ∧ OwnsF w' w.heap.size u (wo l n) ∧ Below w.heap.size w w' := by
  obtain ⟨a, cap, rfl, h1, h2, h3⟩ := h
  unfold maxLen at h2
  obtain ⟨hl, hfs⟩ := fldsOk_parts hok
  have hnm : n.size ≤ maxLen := by unfold maxLen; omega
  go_enter Tryd.func63, Tryd.ntmps63
  go_wp2
  go_loopw [5, 6] (fun u i wr => ∃ (k : Nat), k ≤ l.length ∧ i = .int .i64 k ∧ OwnsF wr w.heap.size u ((l.take k).filter (keepB n)) ∧ Below w.heap.size w wr) (fun _ i _ => l.length - (intOf i).toNat)
  case atStart => exact ⟨0, Nat.zero_le _, rfl, OwnsF.born w, (Below.refl _ _).alloc (Nat.le_refl _) _⟩
  case round =>
    obtain ⟨k, hk, rfl, hown, hb⟩ := hrel
    have hfl := filter_le l k (keepB n)
    by_cases hlt : k < l.length
    · obtain ⟨g, o, rfl, hg, hc⟩ := h3 (by omega)
      have c1 := (hb.cell (p := ⟨g, o + k * 2, none⟩) hg).trans (hc k hlt).1
      have c2 := (hb.cell (p := ⟨g, o + k * 2 + 1, none⟩) hg).trans (hc k hlt).2
      have hsz := fldOk_size (hfs l[k] (List.getElem_mem hlt))
      have hgr : g < wr.heap.size := Nat.lt_of_lt_of_le hg hb.size
      by_cases he : lowS l[k].1 = lowS n
      · have hq := same_yes he
        have HN : Hid ((l.take (k + 1)).filter (keepB n) = (l.take k).filter (keepB n)) := filter_no hlt (keepB_no he)
        generalize l[k] = f at c1 c2 hsz hq he
        have z1 : f.1.size ≤ maxLen := by unfold maxLen; omega
        clear hc h3 hfs he
        go_wp2_with fail
        refine (specLow _ _ z1).mono ?_
        rintro e w1 ⟨rfl, hb1⟩
        go_wp2_with fail
        refine (specLow _ _ hnm).mono ?_
        rintro e w2 ⟨rfl, hb2⟩
        have ho2 := (hown.kept hb1).kept hb2
        have hb02 : Below w.heap.size w w2 := (hb.trans (hb1.mono hb.size)).trans (hb2.mono (Nat.le_trans hb.size hb1.size))
        rw [← HN.out] at ho2
        clear c1 c2 hb hb1 hb2 hown
        go_wp2
        go_roundw
        case rel => exact ⟨k + 1, by omega, by go_num, ho2, hb02⟩
        case measure => simp [intOf]; omega
      · have hq := same_no he
        have HN : Hid ((l.take (k + 1)).filter (keepB n) = (l.take k).filter (keepB n) ++ [l[k]]) := filter_yes hlt (keepB_yes he)
        generalize l[k] = f at c1 c2 hsz hq he HN
        have z1 : f.1.size ≤ maxLen := by unfold maxLen; omega
        clear hc h3 hfs he
        go_wp2_with fail
        refine (specLow _ _ z1).mono ?_
        rintro e w1 ⟨rfl, hb1⟩
        have d1 := (hb1.cell (p := ⟨g, o + k * 2, none⟩) hgr).trans c1
        have d2 := (hb1.cell (p := ⟨g, o + k * 2 + 1, none⟩) hgr).trans c2
        have hgr1 := Nat.lt_of_lt_of_le hgr hb1.size
        go_wp2_with fail
        refine (specLow _ _ hnm).mono ?_
        rintro e w2 ⟨rfl, hb2⟩
        have e1 := (hb2.cell (p := ⟨g, o + k * 2, none⟩) hgr1).trans d1
        have e2 := (hb2.cell (p := ⟨g, o + k * 2 + 1, none⟩) hgr1).trans d2
        have ho2 := (hown.kept hb1).kept hb2
        have hb02 : Below w.heap.size w w2 := (hb.trans (hb1.mono hb.size)).trans (hb2.mono (Nat.le_trans hb.size hb1.size))
        clear c1 c2 d1 d2 hb hb1 hb2 hown
        go_wp2_with (at_builtin; refine wpList_pushF _ rfl (.tmp 23) (.tmp 28) rfl w.heap.size _ _ f rfl ho2 rfl (by omega) hb02.size ?_; intro v3 w3 ho3 hg3)
        have hb03 := hb02.grown hg3 hb02.size (OwnsF.from ho2)
        rw [← HN.out] at ho3
        clear e1 e2 ho2 hb02 hg3
        go_roundw
        case rel => exact ⟨k + 1, by omega, by go_num, ho3, hb03⟩
        case measure => simp [intOf]; omega
    · rw [filter_end hlt] at hown
      go_wp2
      go_ret
      exact ⟨_, rfl, hown, hb⟩

set_option maxHeartbeats 1000000 in
theorem specWo (v : Value) (l : List Fl) (n : ByteArray) (w : World) (h : Fls w v l) (hz : szL l ≤ 1048576) (hn : n.size ≤ 1048576) :
    Calls Tryd.prog 34 #[v, .string n] w fun e w' => ∃ u, e = .returned u ∧ OwnsF w' w.heap.size u (woA l n) ∧ Below w.heap.size w w' := by
  have hnm : n.size ≤ maxLen := by unfold maxLen; omega
  have hh := h
  obtain ⟨a, cap, rfl, _⟩ := hh
  cases hok : fldsOk l with
  | false =>
    rw [← woA_no (n := n) (Or.inl hok)]
    go_enter Tryd.func34, Tryd.ntmps34
    go_wp2_with (go_at_call 17; refine (specOk _ l _ h hz).mono ?_; rw [hok]; rintro e w1 ⟨rfl, hb1⟩)
    go_ret
    exact ⟨_, rfl, (OwnsF.born w1).low hb1.size, hb1.alloc hb1.size _⟩
  | true =>
    cases ht : tokB n with
    | false =>
      rw [← woA_no (l := l) (Or.inr ht)]
      go_enter Tryd.func34, Tryd.ntmps34
      go_wp2_with (first | (go_at_call 17; refine (specOk _ l _ h hz).mono ?_; rw [hok]; rintro e w1 ⟨rfl, hb1⟩) | (go_at_call 66; refine (specTok _ _ hnm).mono ?_; rw [ht]; rintro e w2 ⟨rfl, hb2⟩; have hb02 := hb1.trans (hb2.mono hb1.size)))
      go_ret
      exact ⟨_, rfl, (OwnsF.born w2).low hb02.size, hb02.alloc hb02.size _⟩
    | true =>
      rw [← woA_yes hok ht]
      go_enter Tryd.func34, Tryd.ntmps34
      go_wp2_with (first | (go_at_call 17; refine (specOk _ l _ h hz).mono ?_; rw [hok]; rintro e w1 ⟨rfl, hb1⟩) | (go_at_call 66; refine (specTok _ _ hnm).mono ?_; rw [ht]; rintro e w2 ⟨rfl, hb2⟩; have hb02 := hb1.trans (hb2.mono hb1.size)) | (go_at_call 63; refine (specWoF _ l n _ (h.kept hb02) hok hn).mono ?_; rintro e w3 ⟨u, rfl, ho3, hb3⟩))
      go_ret
      exact ⟨_, rfl, ho3.low hb02.size, hb02.trans (hb3.mono hb02.size)⟩

theorem rest_one (l : List Fl) (n : ByteArray) : l.filter (restB [lowS n]) = wo l n := by
  unfold wo
  congr 1
  funext f
  unfold restB keepB
  by_cases h : lowS f.1 = lowS n
  · simp [h]
  · have h' : ¬ lowS n = lowS f.1 := fun e => h e.symm
    simp [h, h']
theorem strs_one (w : World) (n : ByteArray) : Strs ((w.alloc (.map #[] 0)).alloc (.cells #[.string n] 9)) (.slice (some ⟨w.heap.size + 1, 0, none⟩) 1 1) [n] := by
  have h := strs_lit (w.alloc (.map #[] 0)) [n] (by simp)
  have e : (w.alloc (.map #[] 0)).heap.size = w.heap.size + 1 := by simp
  rw [e] at h
  exact h
/-- A slice of fields as the program answers it. -/
def GivesF (w w' : World) (e : Ending) (l : List Fl) : Prop := (∃ g, e = .returned (.slice (some ⟨g, 0, none⟩) l.length l.length) ∧ HasF w' w.heap.size (.slice (some ⟨g, 0, none⟩) l.length l.length) l) ∧ Below w.heap.size w w'
theorem GivesF.any {w w' : World} {e : Ending} {l : List Fl} (h : GivesF w w' e l) : ∃ u, e = .returned u ∧ HasF w' w.heap.size u l ∧ Below w.heap.size w w' := by
  obtain ⟨⟨g, he, hh⟩, hb⟩ := h
  exact ⟨_, he, hh, hb⟩
theorem woA_length (l : List Fl) (n : ByteArray) : (woA l n).length ≤ 30 := by
  unfold woA
  split
  · rename_i h; exact Nat.le_trans (wo_length l n) (fldsOk_parts h.1).1
  · simp
theorem gives_none {w w1 : World} (hb : Below w.heap.size w w1) : GivesF w (w1.alloc (.cells #[] 53)) (.returned (.slice (some ⟨w1.heap.size, 0, none⟩) 0 0)) [] :=
  ⟨⟨w1.heap.size, rfl, ((OwnsF.born w1).low hb.size).has⟩, hb.alloc hb.size _⟩

set_option maxHeartbeats 1000000 in
theorem implWo (v : Value) (l : List Fl) (n : ByteArray) (w : World) (h : Fls w v l) (hz : szL l ≤ 1048576) (hn : n.size ≤ 1048576) :
    Calls Tryd.prog 33 #[v, .string n] w fun e w' => GivesF w w' e (woA l n) := by
  have hnm : n.size ≤ maxLen := by unfold maxLen; omega
  have hh := h
  obtain ⟨a, cap, rfl, _⟩ := hh
  have hmm := @run_makeMap Tryd.prog
  cases hok : fldsOk l with
  | false =>
    rw [← woA_no (n := n) (Or.inl hok)]
    go_enter Tryd.func33, Tryd.ntmps33
    go_wp2_with (go_at_call 16; refine (implOk _ l _ h hz).mono ?_; rw [hok]; rintro e w1 ⟨rfl, hb1⟩)
    go_ret
    exact gives_none hb1
  | true =>
    cases ht : tokB n with
    | false =>
      rw [← woA_no (l := l) (Or.inr ht)]
      go_enter Tryd.func33, Tryd.ntmps33
      go_wp2_with (first | (go_at_call 16; refine (implOk _ l _ h hz).mono ?_; rw [hok]; rintro e w1 ⟨rfl, hb1⟩) | (go_at_call 65; refine (implTok _ _ hnm).mono ?_; rw [ht]; rintro e w2 ⟨rfl, hb2⟩; have hb02 := hb1.trans (hb2.mono hb1.size)))
      go_ret
      exact gives_none hb02
    | true =>
      rw [← woA_yes hok ht, ← rest_one]
      go_enter Tryd.func33, Tryd.ntmps33
      go_wp2_with (first
        | (go_at_call 16; refine (implOk _ l _ h hz).mono ?_; rw [hok]; rintro e w1 ⟨rfl, hb1⟩)
        | (go_at_call 65; refine (implTok _ _ hnm).mono ?_; rw [ht]; rintro e w2 ⟨rfl, hb2⟩; have hb02 := hb1.trans (hb2.mono hb1.size)))
      have hst := strs_one w2 n
      have hs0 := (SetIs.made w2).kept ((Below.refl _ (w2.alloc (.map #[] 0))).alloc (Nat.le_refl _) (.cells #[.string n] 9))
      have hbm := hb02.alloc hb02.size (.map #[] 0)
      have hbs := hbm.alloc hbm.size (.cells #[.string n] 9)
      have ha := implAdd w2.heap.size [] _ [n] _ hs0 hst (fun k hk => by simp [Value.ownBlock] at hk; omega) (by simpa using hn) (by simp)
      generalize (w2.alloc (.map #[] 0)).alloc (.cells #[.string n] 9) = ws at ha hbs ⊢
      refine ha.mono ?_
      rintro e w3 ⟨rfl, hs3, hg3⟩
      have hb03 := hbs.grown hg3 hbs.size (fun j hj => by cases hj; exact hb02.size)
      go_wp2_with (go_at_call 61; refine (implAllBut _ l w2.heap.size _ _ (h.kept hb03) hok hs3).mono ?_; rintro e w4 ⟨⟨g, rfl, ho4⟩, hb4⟩)
      go_ret
      exact ⟨⟨g, rfl, ho4.low hb03.size⟩, hb03.trans (hb4.mono hb03.size)⟩
end Go.Proofs.YtnkalamfekkmbaaDoor
