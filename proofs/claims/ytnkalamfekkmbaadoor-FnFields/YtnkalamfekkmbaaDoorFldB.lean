/-
  The contracts of the program's parts that leave fields out.
-/
import Derived.Test.YtnkalamfekkmbaaDoorFldN
import Derived.Test.YtnkalamfekkmbaaDoorFldW
namespace Go.Proofs.YtnkalamfekkmbaaDoor
open Go.RowKit Go.Sort Go.Maps

theorem clone (s : ByteArray) (w : World) (hs : s.size ≤ 1048576) :
    Calls Tryd.prog 75 #[.string s] w fun e w' => e = .returned (.string s) ∧ Below w.heap.size w w' := by
  go_enter Tryd.func75, Tryd.ntmps75
  go_wp2_with (go_at_call 84; refine (Tryd.stringslite_Clone s _ (by omega)).mono ?_; rintro e w1 ⟨rfl, hb1⟩)
  go_ret
  exact ⟨rfl, hb1⟩

set_option maxHeartbeats 1000000 in
theorem implNew (n v : ByteArray) (w : World) (hn : n.size ≤ 1048576) (hv : v.size ≤ 1048576) :
    Calls Tryd.prog 56 #[.string n, .string v] w fun e w' => e = .returned (.agg #[.string n, .string v]) ∧ Below w.heap.size w w' := by
  have b0 : (w.alloc (.cells #[.string ⟨#[]⟩, .string ⟨#[]⟩] 53)).heap[w.heap.size]? = some (.cells #[.string ⟨#[]⟩, .string ⟨#[]⟩] 53) := heap_alloc_new w _
  have bl := box_lt w (.cells #[.string ⟨#[]⟩, .string ⟨#[]⟩] 53)
  have hbb := (Below.refl w.heap.size w).alloc (Nat.le_refl _) (.cells #[.string ⟨#[]⟩, .string ⟨#[]⟩] 53)
  go_enter Tryd.func56, Tryd.ntmps56
  go_wp2_with fail
  refine (clone n _ (by omega)).mono ?_
  rintro e w1 ⟨rfl, hb1⟩
  go_wp2_with fail
  refine (clone v _ (by omega)).mono ?_
  rintro e w2 ⟨rfl, hb2⟩
  have b2 : w2.heap[w.heap.size]? = some (.cells #[.string ⟨#[]⟩, .string ⟨#[]⟩] 53) := by
    rw [hb2.block _ (Nat.lt_of_lt_of_le bl hb1.size), hb1.block _ bl]; exact b0
  have c0 : w2.cell? ⟨w.heap.size, 0, none⟩ = some (.string ⟨#[]⟩) := by rw [cell_of_row w2 _ 0 _ _ _ b2]; rfl
  have c1 : w2.cell? ⟨w.heap.size, 1, none⟩ = some (.string ⟨#[]⟩) := by rw [cell_of_row w2 _ 1 _ _ _ b2]; rfl
  have f0 := frozen_of_row w2 w.heap.size 0 _ _ b2
  have f1 := frozen_of_row w2 w.heap.size 1 _ _ b2
  have hbw : Below w.heap.size w w2 := (hbb.trans (hb1.mono (Nat.le_of_lt bl))).trans (hb2.mono (Nat.le_trans (Nat.le_of_lt bl) hb1.size))
  clear b2 b0 hb1 hb2 hbb
  go_wp2
  refine bodyPost_ret (v := .agg #[.string n, .string v]) (by simp [results, Tryd.results56, go_sem, c0, c1]) rfl ⟨rfl, ?_⟩
  exact (hbw.setCell (Nat.le_refl _) _).setCell (Nat.le_refl _) _

theorem implRoom (g n cap : Nat) (w : World) (h : n ≤ cap) :
    Calls Tryd.prog 46 #[.slice (some ⟨g, 0, none⟩) n cap] w fun e w' => e = .returned (.slice (some ⟨g, 0, none⟩) n n) ∧ w = w' := by
  go_enter Tryd.func46, Tryd.ntmps46
  go_wp2
  go_ret
  exact ⟨rfl, rfl⟩

/-- What is left without the names acc. -/
def restB (acc : List ByteArray) (f : Fl) : Bool := !(acc.any fun n => decide (n = lowS f.1))
theorem OwnsF.solid {w : World} {B : Nat} {v : Value} {l : List Fl} (h : OwnsF w B v l) (hl : 0 < l.length) : ∃ g cap, v = .slice (some ⟨g, 0, none⟩) l.length cap ∧ l.length ≤ cap ∧ cap ≤ maxLen := by
  rcases h.2 with ⟨_, h0⟩ | ⟨g, cap, cur, rfl, hb, hg, hc, hm, rest⟩
  · omega
  · exact ⟨g, cap, rfl, hc, hm⟩

set_option maxHeartbeats 1000000 in
theorem implAllBut (v : Value) (l : List Fl) (b : Nat) (acc : List ByteArray) (w : World) (hf : Fls w v l) (hok : fldsOk l = true) (hset : SetIs w b acc) :
    Calls Tryd.prog 61 #[v, .map (some b)] w fun e w' => (∃ g, e = .returned (.slice (some ⟨g, 0, none⟩) (l.filter (restB acc)).length (l.filter (restB acc)).length) ∧ HasF w' w.heap.size (.slice (some ⟨g, 0, none⟩) (l.filter (restB acc)).length (l.filter (restB acc)).length) (l.filter (restB acc))) ∧ Below w.heap.size w w' := by
  obtain ⟨a, cap, rfl, h1, h2, h3⟩ := hf
  unfold maxLen at h2
  obtain ⟨hl, hfs⟩ := fldsOk_parts hok
  obtain ⟨i0, hi, hz0, hz1, hz2⟩ := info_parts Tryd.infoF
  obtain ⟨w0, hrun, hown, hgr⟩ := run_make_own (P := Tryd.prog) w w.heap.size 24 53 i0 (.agg #[.string ⟨#[]⟩, .string ⟨#[]⟩]) 2 Tryd.underlying24 hi hz0 hz1 .i64 .i64 l.length (by rw [hz2]; omega) (by unfold maxLen; omega) (Nat.le_refl _)
  have hown0 : OwnsF w0 w.heap.size (.slice (some ⟨w.heap.size, 0, none⟩) 0 l.length) [] := hown
  have hb0 : Below w.heap.size w w0 := (Below.refl _ w).grown hgr (Nat.le_refl _) (fun j hj => by cases hj)
  clear hown hgr hi hz0 hz1 hz2
  go_enter Tryd.func61, Tryd.ntmps61
  go_wp2
  go_loopw [5, 13] (fun u i wr => ∃ (k g c : Nat), k ≤ l.length ∧ i = .int .i64 k ∧ u = .slice (some ⟨g, 0, none⟩) ((l.take k).filter (restB acc)).length c ∧ ((l.take k).filter (restB acc)).length ≤ c ∧ c ≤ maxLen ∧ OwnsF wr w.heap.size u ((l.take k).filter (restB acc)) ∧ Below w.heap.size w wr) (fun _ i _ => l.length - (intOf i).toNat)
  case atStart => exact ⟨0, w.heap.size, l.length, Nat.zero_le _, rfl, rfl, Nat.zero_le _, by unfold maxLen; omega, hown0, hb0⟩
  case round =>
    clear hown0 hb0 hrun
    obtain ⟨k, gu, c, hk, rfl, rfl, hcl, hcm, hown, hb⟩ := hrel
    have hfl := filter_le l k (restB acc)
    by_cases hlt : k < l.length
    · obtain ⟨g, o, rfl, hg, hc⟩ := h3 (by omega)
      have c1 := (hb.cell (p := ⟨g, o + k * 2, none⟩) hg).trans (hc k hlt).1
      have c2 := (hb.cell (p := ⟨g, o + k * 2 + 1, none⟩) hg).trans (hc k hlt).2
      have hsz := fldOk_size (hfs l[k] (List.getElem_mem hlt))
      have hs1 := hset.kept hb
      have hsa := hs1.kept ((Below.refl wr.heap.size wr).alloc (Nat.le_refl _) (.cells #[.string l[k].1, .string l[k].2] 53))
      cases hr : restB acc l[k] with
      | true =>
        have HN : Hid ((l.take (k + 1)).filter (restB acc) = (l.take k).filter (restB acc) ++ [l[k]]) := filter_yes hlt hr
        have hany : (acc.any fun n => decide (n = lowS l[k].1)) = false := by unfold restB at hr; simpa using hr
        clear hr
        generalize l[k] = f at c1 c2 hsz HN hany hsa
        generalize (l.take k).filter (restB acc) = s0 at hown hcl hfl HN
        have d0 := box0 wr f 53
        have d1 := box1 wr f 53
        have bl := box_lt wr (.cells #[.string f.1, .string f.2] 53)
        have hba := hb.alloc hb.size (.cells #[.string f.1, .string f.2] 53)
        have hoa := hown.alloc (.cells #[.string f.1, .string f.2] 53)
        clear hc h3 hfs
        go_wp2_with (first
          | (go_at_call 79; refine (implHas b acc f.1 _ hsa (by omega)).mono ?_; rw [hany]; rintro e w1 ⟨rfl, hb1⟩; have e0 := (hb1.cell (p := ⟨wr.heap.size, 0, none⟩) bl).trans d0; have e1 := (hb1.cell (p := ⟨wr.heap.size, 1, none⟩) bl).trans d1; have ho1 := hoa.kept hb1; have hb01 := hba.trans (hb1.mono hba.size))
          | (go_at_call 56; refine (implNew f.1 f.2 _ (by omega) (by omega)).mono ?_; rintro e w2 ⟨rfl, hb2⟩; have ho2 := ho1.kept hb2; have hb02 := hb01.trans (hb2.mono hb01.size))
          | (at_builtin; refine wpList_pushF _ rfl (.tmp 22) (.tmp 28) rfl w.heap.size _ _ f rfl ho2 rfl (by omega) hb02.size ?_; intro v3 w3 ho3 hg3))
        have hb03 := hb02.grown hg3 hb02.size (OwnsF.from ho2)
        obtain ⟨g3, c3, rfl, hc3, hm3⟩ := ho3.solid (by simp)
        rw [← HN.out] at ho3 hc3
        clear hown hoa ho1 ho2 hb hb1 hb2 hba hb01 hb02 hg3 c1 c2 d0 d1 e0 e1 hs1 hsa
        go_roundw
        case rel => exact ⟨k + 1, g3, c3, by omega, by go_num, by rw [HN.out], hc3, hm3, by rw [HN.out] at ho3 ⊢; exact ho3, hb03⟩
        case measure => simp [intOf]; omega
      | false =>
        have HN : Hid ((l.take (k + 1)).filter (restB acc) = (l.take k).filter (restB acc)) := filter_no hlt hr
        have hany : (acc.any fun n => decide (n = lowS l[k].1)) = true := by unfold restB at hr; simpa using hr
        clear hr
        generalize l[k] = f at c1 c2 hsz HN hany hsa
        generalize (l.take k).filter (restB acc) = s0 at hown hcl hfl HN
        have d0 := box0 wr f 53
        have hba := hb.alloc hb.size (.cells #[.string f.1, .string f.2] 53)
        have hoa := hown.alloc (.cells #[.string f.1, .string f.2] 53)
        clear hc h3 hfs
        go_wp2_with (go_at_call 79; refine (implHas b acc f.1 _ hsa (by omega)).mono ?_; rw [hany]; rintro e w1 ⟨rfl, hb1⟩; have ho1 := hoa.kept hb1; have hb01 := hba.trans (hb1.mono hba.size))
        clear hown hoa hb hb1 hba c1 c2 d0 hs1 hsa
        go_roundw
        case rel => exact ⟨k + 1, gu, c, by omega, by go_num, by rw [HN.out], by rw [HN.out]; exact hcl, hcm, by rw [HN.out]; exact ho1, hb01⟩
        case measure => simp [intOf]; omega
    · have HN : Hid ((l.take k).filter (restB acc) = l.filter (restB acc)) := filter_end hlt
      rw [HN.out] at hcl hown
      rw [HN.out]
      have hr := fun w => implRoom gu (l.filter (restB acc)).length c w hcl
      go_wp2_with (go_at_call 46; refine (hr _).mono ?_; rintro e w1 ⟨rfl, rfl⟩)
      go_ret
      exact ⟨⟨gu, rfl, hown.has.cut rfl⟩, hb⟩
end Go.Proofs.YtnkalamfekkmbaaDoor
