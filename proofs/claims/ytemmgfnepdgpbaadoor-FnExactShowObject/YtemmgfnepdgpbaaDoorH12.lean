/-
  The contracts of the law's own helpers on fields: how large, turned into the program's, compared.
  The contracts of 'a field is right', the specification's and the program's.
  The contract of 'a field is right', the program's.
-/
import Derived.Test.YtemmgfnepdgpbaaDoorH04
import Derived.Test.YtemmgfnepdgpbaaDoorH11
import Derived.Laws.OwnMore
import Derived.Test.YtemmgfnepdgpbaaDoorH07
import Derived.Deep.RegionWith
namespace Go.Proofs.YtemmgfnepdgpbaaDoor
open Go.RowKit Go.Sort

theorem szF1 (f : Fl) (n : Nat) (hn : n ≤ 1048576) (h1 : f.1.size ≤ maxLen) (h2 : f.2.size ≤ maxLen) (w : World) :
    Calls Tryd.prog 26 #[.agg #[.string f.1, .string f.2], .int .i64 n] w fun e w' => (∃ r : Int, e = .returned (.int .i64 r) ∧ (r = -1 ∨ (0 ≤ r ∧ r + f.1.size + f.2.size = n))) ∧ Below w.heap.size w w' := by
  unfold maxLen at h1 h2
  have hb := (Below.refl w.heap.size w).alloc (Nat.le_refl _) (.cells #[.string f.1, .string f.2] 52)
  go_enter Tryd.func26, Tryd.ntmps26
  go_wp2
  · go_ret
    exact ⟨⟨-1, rfl, Or.inl rfl⟩, hb⟩
  · go_ret
    exact ⟨⟨-1, rfl, Or.inl rfl⟩, hb⟩
  · go_ret
    exact ⟨⟨_, rfl, Or.inr ⟨by omega, by omega⟩⟩, hb⟩

theorem toF1 (f : Fl) (w : World) :
    Calls Tryd.prog 33 #[.agg #[.string f.1, .string f.2]] w fun e w' => e = .returned (.agg #[.string f.1, .string f.2]) ∧ Below w.heap.size w w' := by
  go_enter Tryd.func33, Tryd.ntmps33
  go_wp2
  refine bodyPost_ret (v := .agg #[.string f.1, .string f.2]) (by simp [results, Tryd.results33, go_sem]) rfl ⟨rfl, ?_⟩
  exact (((Grew.refl w).alloc _).alloc _ |>.alloc _).low

theorem eqF1 (f : Fl) (w : World) :
    Calls Tryd.prog 40 #[.agg #[.string f.1, .string f.2], .agg #[.string f.1, .string f.2]] w fun e w' => e = .returned (.bool true) ∧ Grew w w' := by
  go_enter Tryd.func40, Tryd.ntmps40
  go_wp2
  go_ret
  exact ⟨rfl, ((Grew.refl w).alloc _).alloc _⟩

theorem made_cells (n : Nat) : (madeCells (Value.cells (.agg #[.string ⟨#[]⟩, .string ⟨#[]⟩])) (n * 2)).toList = cellsF (List.replicate n (⟨#[]⟩, ⟨#[]⟩)) := by
  apply List.ext_getElem?
  intro j
  by_cases hj : j < n * 2
  · have e : (madeCells (Value.cells (.agg #[.string ⟨#[]⟩, .string ⟨#[]⟩])) (n * 2)).toList[j]? = some (.string ⟨#[]⟩) := by
      have h2 : j % 2 = 0 ∨ j % 2 = 1 := by omega
      rcases h2 with h2 | h2 <;> simp [madeCells, hj, Value.cells, h2]
    rw [e]
    obtain ⟨c1, c2⟩ := cellsF_at (List.replicate n (⟨#[]⟩, ⟨#[]⟩)) (j / 2) (by simp; omega)
    have h2 : j = j / 2 * 2 ∨ j = j / 2 * 2 + 1 := by omega
    rcases h2 with h2 | h2
    · rw [h2, c1]; simp
    · rw [h2, c2]; simp
  · rw [List.getElem?_eq_none (by simp [madeCells]; omega), List.getElem?_eq_none (by rw [cellsF_length]; simp; omega)]
theorem putF (l : List Fl) (k : Nat) (hk : k < l.length) (f : Fl) : (l.set k (f.1, l[k].2)).set k (((l.set k (f.1, l[k].2))[k]'(by rw [List.length_set]; exact hk)).1, f.2) = l.set k f := by
  rw [List.set_set]; simp
/-- Turned so far: the first k, and behind them empty ones. -/
def turned (l : List Fl) (k : Nat) : List Fl := l.take k ++ List.replicate (l.length - k) (⟨#[]⟩, ⟨#[]⟩)
theorem turned_length (l : List Fl) (k : Nat) (hk : k ≤ l.length) : (turned l k).length = l.length := by unfold turned; simp; omega
theorem turned_zero (l : List Fl) : turned l 0 = List.replicate l.length (⟨#[]⟩, ⟨#[]⟩) := by simp [turned]
theorem turned_all (l : List Fl) : turned l l.length = l := by simp [turned]
theorem turned_next (l : List Fl) (k : Nat) (hk : k < l.length) : (turned l k).set k l[k] = turned l (k + 1) := by
  unfold turned
  have e : (l.take k).length = k := by simp; omega
  rw [List.set_append_right _ _ (by omega), e, Nat.sub_self, List.take_succ_eq_append_getElem hk, List.append_assoc]
  congr 1
  rw [show l.length - k = (l.length - (k + 1)) + 1 from by omega, List.replicate_succ, List.set_cons_zero]
  rfl

set_option maxHeartbeats 400000 in
theorem toFS (v : Value) (l : List Fl) (w : World) (h : Fls w v l) (hl : l.length ≤ 1048576) :
    Calls Tryd.prog 16 #[v] w fun e w' => ∃ u, e = .returned u ∧ OwnsF w' w.heap.size u l ∧ Below w.heap.size w w' := by
  obtain ⟨a, cap, rfl, h1, h2, h3⟩ := h
  unfold maxLen at h2
  obtain ⟨i0, hi, hz0, hz1, hz2⟩ := info_parts Tryd.infoF
  obtain ⟨w0, hrun, hown, hgr⟩ := run_make_full (P := Tryd.prog) w w.heap.size 29 57 i0 (.agg #[.string ⟨#[]⟩, .string ⟨#[]⟩]) 2 Tryd.underlying29 hi hz0 hz1 .i64 .i64 l.length (by rw [hz2]; omega) (by unfold maxLen; omega) (Nat.le_refl _)
  rw [made_cells, ← turned_zero] at hown
  have hown0 : OwnsF w0 w.heap.size (.slice (some ⟨w.heap.size, 0, none⟩) l.length l.length) (turned l 0) := by
    unfold OwnsF
    rw [turned_length l 0 (Nat.zero_le _)]
    exact hown
  have hb0 : Below w.heap.size w w0 := (Below.refl _ w).grown hgr (Nat.le_refl _) (fun j hj => by cases hj)
  have hs0 : w.heap.size < w0.heap.size := OwnsF.under hown0 _ rfl
  clear hown hgr hi hz0 hz1 hz2
  go_enter Tryd.func16, Tryd.ntmps16
  go_wp2
  go_loopw [4] (fun i wr => ∃ k : Nat, k ≤ l.length ∧ i = .int .i64 k ∧ OwnsF wr w.heap.size (.slice (some ⟨w.heap.size, 0, none⟩) l.length l.length) (turned l k) ∧ Below w.heap.size w wr) (fun i _ => l.length - (intOf i).toNat)
  case atStart => exact ⟨0, Nat.zero_le _, rfl, hown0, hb0⟩
  case round =>
    clear hown0 hb0 hs0 hrun
    obtain ⟨k, hk, rfl, ho, hb⟩ := hrel
    by_cases hlt : k < l.length
    · obtain ⟨g, o, rfl, hg, hc⟩ := h3 (by omega)
      have c1 := (hb.cell (p := ⟨g, o + k * 2, none⟩) hg).trans (hc k hlt).1
      have c2 := (hb.cell (p := ⟨g, o + k * 2 + 1, none⟩) hg).trans (hc k hlt).2
      have hnx := turned_next l k hlt
      have hln := turned_length l k hk
      generalize l[k] = f at c1 c2 hnx
      generalize hl2 : turned l (k + 1) = l2 at hnx
      generalize turned l k = l1 at ho hnx hln
      clear hc h3
      go_wp2_with (go_at_call 33; refine (toF1 f _).mono ?_; rintro e w1 ⟨rfl, hb1⟩; have ho1 := ho.kept hb1; have f1 := ho1.free hln.symm (k * 2); have f2 := ho1.free hln.symm (k * 2 + 1); obtain ⟨d1, d2⟩ := ho1.at hln.symm k (by omega))
      have hp := (ho1.put1 (k := k) hln.symm (by omega) f.1).put2 (by rw [List.length_set]; exact hln.symm) (k := k) (by rw [List.length_set]; omega) f.2
      rw [putF l1 k (by omega) f, hnx] at hp
      go_roundw
      case rel => exact ⟨k + 1, by omega, by go_num, by rw [hl2]; exact hp, ((hb.trans (hb1.mono hb.size)).setCell (Nat.le_refl _) _).setCell (Nat.le_refl _) _⟩
      case measure => simp [intOf]; omega
    · obtain rfl : k = l.length := by omega
      rw [turned_all] at ho
      go_wp2
      go_ret
      exact ⟨_, rfl, ho, hb⟩

set_option maxHeartbeats 400000 in
theorem eqFS (va vb : Value) (l : List Fl) (w : World) (ha : Fls w va l) (hb : Fls w vb l) (hl : l.length ≤ 1048576) :
    Calls Tryd.prog 21 #[va, vb] w fun e w' => e = .returned (.bool true) ∧ Grew w w' := by
  obtain ⟨a, ca, rfl, a1, a2, a3⟩ := ha
  obtain ⟨b, cb, rfl, b1, b2, b3⟩ := hb
  have hmx := mixed
  go_enter Tryd.func21, Tryd.ntmps21
  go_wp2
  go_loopw [5] (fun i wr => ∃ (k : Nat), k ≤ l.length ∧ i = .int .i64 k ∧ Grew w wr) (fun i _ => l.length - (intOf i).toNat)
  case atStart => exact ⟨0, Nat.zero_le _, rfl, Grew.refl _⟩
  case round =>
    obtain ⟨k, hk, rfl, hg⟩ := hrel
    by_cases hlt : k < l.length
    · obtain ⟨ga, oa, rfl, hga, hca⟩ := a3 (by omega)
      obtain ⟨gb, ob, rfl, hgb, hcb⟩ := b3 (by omega)
      have c1 := hg.cell (hca k hlt).1 hga
      have c2 := hg.cell (hca k hlt).2 hga
      have c3 := hg.cell (hcb k hlt).1 hgb
      have c4 := hg.cell (hcb k hlt).2 hgb
      have hsz := hg.1.size
      generalize l[k] = f at c1 c2 c3 c4
      have k1 : ∀ n os, (grow (wr.drewN n) os).cell? ⟨ga, oa + k * 2, none⟩ = some (.string f.1) := fun n os => (cell?_grow _ _ _ (by show ga < wr.heap.size; omega)).trans c1
      have k2 : ∀ n os, (grow (wr.drewN n) os).cell? ⟨ga, oa + k * 2 + 1, none⟩ = some (.string f.2) := fun n os => (cell?_grow _ _ _ (by show ga < wr.heap.size; omega)).trans c2
      have k3 : ∀ n os, (grow (wr.drewN n) os).cell? ⟨gb, ob + k * 2, none⟩ = some (.string f.1) := fun n os => (cell?_grow _ _ _ (by show gb < wr.heap.size; omega)).trans c3
      have k4 : ∀ n os, (grow (wr.drewN n) os).cell? ⟨gb, ob + k * 2 + 1, none⟩ = some (.string f.2) := fun n os => (cell?_grow _ _ _ (by show gb < wr.heap.size; omega)).trans c4
      clear c1 c2 c3 c4 a3 b3 hca hcb
      go_wp2
      go_quiet_grown ((go_at_call 40; refine callGrew (eqF1 f _)))
      clear k1 k2 k3 k4
      have hg2 : Grew w (grow (wr.drewN nq) osq) := (hg.drewN _).more _
      generalize grow (wr.drewN nq) osq = w1 at hg2 ⊢
      go_wp2
      go_roundw
      case rel => exact ⟨k + 1, by omega, by go_num, hg2⟩
      case measure => simp [intOf]; omega
    · go_wp2
      go_ret
      exact ⟨rfl, hg⟩
end Go.Proofs.YtemmgfnepdgpbaaDoor
namespace Go.Proofs.YtemmgfnepdgpbaaDoor
open Go.RowKit Go.Sort

theorem box0 (w : World) (f : Fl) (t : TypeId) : (w.alloc (.cells #[.string f.1, .string f.2] t)).cell? ⟨w.heap.size, 0, none⟩ = some (.string f.1) := by rw [World.cell?_alloc_mark]; rfl
theorem box1 (w : World) (f : Fl) (t : TypeId) : (w.alloc (.cells #[.string f.1, .string f.2] t)).cell? ⟨w.heap.size, 1, none⟩ = some (.string f.2) := by rw [World.cell?_alloc_mark]; rfl
theorem box_lt (w : World) (o : Obj) : w.heap.size < (w.alloc o).heap.size := by simp

set_option maxHeartbeats 1000000 in
theorem specFld (f : Fl) (w : World) (h1 : f.1.size ≤ 1048576) (h2 : f.2.size ≤ 1048576) :
    Calls Tryd.prog 41 #[.agg #[.string f.1, .string f.2]] w fun e w' => e = .returned (.bool (fldOk f)) ∧ Below w.heap.size w w' := by
  have z1 : f.1.size ≤ maxLen := by unfold maxLen; omega
  have z2 : f.2.size ≤ maxLen := by unfold maxLen; omega
  have b0 := box0 w f 57
  have b1 := box1 w f 57
  have bl := box_lt w (.cells #[.string f.1, .string f.2] 57)
  have hbb := (Below.refl w.heap.size w).alloc (Nat.le_refl _) (.cells #[.string f.1, .string f.2] 57)
  cases ht : tokB f.1 with
  | false =>
    have HN : Hid (false = fldOk f) := fldOk_tok ht
    go_enter Tryd.func41, Tryd.ntmps41
    go_wp2
    first | go_region_with (go_at_call 52; refine (specTok _ _ z1).mono ?_; rw [ht]; rintro e w1 ⟨rfl, hb1⟩) | fail
    all_goals
      go_wp2
      go_ret
      exact ⟨ret_bool HN.out, hbb.trans ((show Below (w.alloc (.cells #[.string f.1, .string f.2] 57)).heap.size (w.alloc (.cells #[.string f.1, .string f.2] 57)) _ from ⟨hb1.os, hb1.tape, hb1.output, hb1.size, hb1.block⟩).mono (Nat.le_of_lt bl))⟩
  | true =>
    cases hv : visB f.2 with
    | false =>
      have HN : Hid (false = fldOk f) := fldOk_vis ht hv
      go_enter Tryd.func41, Tryd.ntmps41
      go_wp2
      first | go_region_with (first | (go_at_call 52; refine (specTok _ _ z1).mono ?_; rw [ht]; rintro e w1 ⟨rfl, hb1⟩; have x1 := (hb1.cell (p := ⟨w.heap.size, 1, none⟩) bl).trans b1) | (go_at_call 53; refine (specVis _ _ z2).mono ?_; rw [hv]; rintro e w2 ⟨rfl, rfl⟩)) | fail
      all_goals
        go_wp2
        go_ret
        exact ⟨ret_bool HN.out, hbb.trans ((show Below (w.alloc (.cells #[.string f.1, .string f.2] 57)).heap.size (w.alloc (.cells #[.string f.1, .string f.2] 57)) _ from ⟨hb1.os, hb1.tape, hb1.output, hb1.size, hb1.block⟩).mono (Nat.le_of_lt bl))⟩
    | true =>
      have HN : Hid (((trimB f.2).toList == f.2.toList) = fldOk f) := fldOk_same ht hv
      go_enter Tryd.func41, Tryd.ntmps41
      go_wp2
      first | go_region_with (first | (go_at_call 52; refine (specTok _ _ z1).mono ?_; rw [ht]; rintro e w1 ⟨rfl, hb1⟩; have x1 := (hb1.cell (p := ⟨w.heap.size, 1, none⟩) bl).trans b1) | (go_at_call 53; refine (specVis _ _ z2).mono ?_; rw [hv]; rintro e w2 ⟨rfl, rfl⟩) | (go_at_call 54; refine (specTrim _ _ h2).mono ?_; rintro e w3 ⟨rfl, rfl⟩)) | fail
      all_goals
        go_wp2
        go_ret
        exact ⟨ret_bool HN.out, hbb.trans ((show Below (w.alloc (.cells #[.string f.1, .string f.2] 57)).heap.size (w.alloc (.cells #[.string f.1, .string f.2] 57)) _ from ⟨hb1.os, hb1.tape, hb1.output, hb1.size, hb1.block⟩).mono (Nat.le_of_lt bl))⟩
end Go.Proofs.YtemmgfnepdgpbaaDoor
namespace Go.Proofs.YtemmgfnepdgpbaaDoor
open Go.RowKit Go.Sort

set_option maxHeartbeats 1000000 in
theorem implFld (f : Fl) (w : World) (h1 : f.1.size ≤ 1048576) (h2 : f.2.size ≤ 1048576) :
    Calls Tryd.prog 44 #[.agg #[.string f.1, .string f.2]] w fun e w' => e = .returned (.bool (fldOk f)) ∧ Below w.heap.size w w' := by
  have z1 : f.1.size ≤ maxLen := by unfold maxLen; omega
  have z2 : f.2.size ≤ maxLen := by unfold maxLen; omega
  have b0 := box0 w f 57
  have b1 := box1 w f 57
  have bl := box_lt w (.cells #[.string f.1, .string f.2] 57)
  have hbb := (Below.refl w.heap.size w).alloc (Nat.le_refl _) (.cells #[.string f.1, .string f.2] 57)
  cases ht : tokB f.1 with
  | false =>
    have HN : Hid (false = fldOk f) := fldOk_tok ht
    go_enter Tryd.func44, Tryd.ntmps44
    go_wp2
    first | go_region_with (go_at_call 56; refine (implTok _ _ z1).mono ?_; rw [ht]; rintro e w1 ⟨rfl, hb1⟩) | fail
    all_goals
      go_wp2
      go_ret
      exact ⟨ret_bool HN.out, hbb.trans ((show Below (w.alloc (.cells #[.string f.1, .string f.2] 57)).heap.size (w.alloc (.cells #[.string f.1, .string f.2] 57)) _ from ⟨hb1.os, hb1.tape, hb1.output, hb1.size, hb1.block⟩).mono (Nat.le_of_lt bl))⟩
  | true =>
    cases hv : visB f.2 with
    | false =>
      have HN : Hid (false = fldOk f) := fldOk_vis ht hv
      go_enter Tryd.func44, Tryd.ntmps44
      go_wp2
      first | go_region_with (first | (go_at_call 56; refine (implTok _ _ z1).mono ?_; rw [ht]; rintro e w1 ⟨rfl, hb1⟩; have x1 := (hb1.cell (p := ⟨w.heap.size, 1, none⟩) bl).trans b1; have hb01 := hbb.trans ((show Below (w.alloc (.cells #[.string f.1, .string f.2] 57)).heap.size (w.alloc (.cells #[.string f.1, .string f.2] 57)) w1 from ⟨hb1.os, hb1.tape, hb1.output, hb1.size, hb1.block⟩).mono (Nat.le_of_lt bl)); have bl1 := Nat.lt_of_lt_of_le bl hb1.size) | (go_at_call 57; refine (implVis _ _ z2).mono ?_; rw [hv]; rintro e w2 ⟨rfl, hb2⟩; have x2 := (hb2.cell (p := ⟨w.heap.size, 1, none⟩) bl1).trans x1; have bl2 := Nat.lt_of_lt_of_le bl1 hb2.size; have hb02 := hb01.trans ((show Below w1.heap.size w1 w2 from ⟨hb2.os, hb2.tape, hb2.output, hb2.size, hb2.block⟩).mono hb01.size))) | fail
      all_goals
        go_wp2
        go_ret
        exact ⟨ret_bool HN.out, hb02⟩
    | true =>
      have HN : Hid (((trimB f.2).toList == f.2.toList) = fldOk f) := fldOk_same ht hv
      go_enter Tryd.func44, Tryd.ntmps44
      go_wp2
      first | go_region_with (first | (go_at_call 56; refine (implTok _ _ z1).mono ?_; rw [ht]; rintro e w1 ⟨rfl, hb1⟩; have x1 := (hb1.cell (p := ⟨w.heap.size, 1, none⟩) bl).trans b1; have hb01 := hbb.trans ((show Below (w.alloc (.cells #[.string f.1, .string f.2] 57)).heap.size (w.alloc (.cells #[.string f.1, .string f.2] 57)) w1 from ⟨hb1.os, hb1.tape, hb1.output, hb1.size, hb1.block⟩).mono (Nat.le_of_lt bl)); have bl1 := Nat.lt_of_lt_of_le bl hb1.size) | (go_at_call 57; refine (implVis _ _ z2).mono ?_; rw [hv]; rintro e w2 ⟨rfl, hb2⟩; have x2 := (hb2.cell (p := ⟨w.heap.size, 1, none⟩) bl1).trans x1; have bl2 := Nat.lt_of_lt_of_le bl1 hb2.size; have hb02 := hb01.trans ((show Below w1.heap.size w1 w2 from ⟨hb2.os, hb2.tape, hb2.output, hb2.size, hb2.block⟩).mono hb01.size)) | (go_at_call 58; refine (implTrim _ _ h2).mono ?_; rintro e w3 ⟨rfl, hb3⟩; have x3 := (hb3.cell (p := ⟨w.heap.size, 1, none⟩) bl2).trans x2; have hb03 := hb02.trans ((show Below w2.heap.size w2 w3 from ⟨hb3.os, hb3.tape, hb3.output, hb3.size, hb3.block⟩).mono hb02.size))) | fail
      all_goals
        go_wp2
        go_ret
        exact ⟨ret_bool HN.out, hb03⟩
end Go.Proofs.YtemmgfnepdgpbaaDoor
