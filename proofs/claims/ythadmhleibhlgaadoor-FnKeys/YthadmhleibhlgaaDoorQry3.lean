/-
  The contract of the program's SortedQuery.
-/
import Derived.Test.YthadmhleibhlgaaDoorQry2
import Derived.Test.YthadmhleibhlgaaDoorDot
import Derived.Test.YthadmhleibhlgaaDoorShelfB
namespace Go.Proofs.YthadmhleibhlgaaDoor
open Go.RowKit Go.Sort

/-- The world behind the sort: the row is sorted, all below it is as it was. -/
theorem sorted_at {w1 w2 : World} {g n c q B : Nat} {os : Array Obj} {ps : List (List UInt8)} (ho : OwnsT w1 B (.slice (some ⟨g, 0, none⟩) n c) (ps.map txt)) (hn : n = ps.length) (hB : B ≤ g) (hg : g < w1.heap.size)
    (hw : w2 = grow (putRow encStr (Sort.ahead w1 q) g 0 (ps.mergeSort fun x y => decide (x ≤ y)).toArray) os) :
    Below B w1 w2 ∧ g < w2.heap.size ∧ ∀ j x, (ps.mergeSort fun x y => decide (x ≤ y))[j]? = some x → w2.cell? ⟨g, j, none⟩ = some (.string (txt x)) := by
  have hH : Holds encStr (Sort.ahead w1 q) g 0 ps.toArray := by
    intro j hj
    have hj' : j < ps.length := by simpa using hj
    rw [Nat.zero_add]
    refine ⟨?_, ?_⟩
    · show w1.cell? ⟨g, j, none⟩ = _
      rw [ho.cellAt (x := txt ps[j]) (by rw [List.length_map]; exact hn) (by simp [hj'])]
      simp [hj', txt]
    · show w1.frozen? ⟨g, j, none⟩ = false
      exact ho.unfrozen (by rw [List.length_map]; exact hn) j
  have hl : (ps.mergeSort fun x y => decide (x ≤ y)).length = ps.length := List.length_mergeSort ps
  generalize (ps.mergeSort fun x y => decide (x ≤ y)) = ms at hl hw
  have hH2 := holds_putRow encStr (Sort.ahead w1 q) g 0 ps.toArray ms.toArray hH (by simp [hl])
  have hsz : (putRow encStr (Sort.ahead w1 q) g 0 ms.toArray).heap.size = w1.heap.size := by rw [size_putRow]; rfl
  have hblk : ∀ k, k < B → w2.heap[k]? = w1.heap[k]? := by
    intro k hk
    rw [hw, heap_grow_old _ _ (by rw [hsz]; omega)]
    show (w1.heap.modify g _)[k]? = _
    rw [Array.getElem?_modify, if_neg (by omega)]
  have hwz : w1.heap.size ≤ w2.heap.size := by
    rw [hw]
    show w1.heap.size ≤ ((putRow encStr (Sort.ahead w1 q) g 0 ms.toArray).heap ++ os).size
    rw [Array.size_append, hsz]
    omega
  refine ⟨⟨by rw [hw]; rfl, by rw [hw]; rfl, by rw [hw]; rfl, hwz, hblk⟩, by omega, fun j x hx => ?_⟩
  have hj : j < ms.length := (List.getElem?_eq_some_iff.1 hx).1
  have := (hH2 j (by simpa using hj)).1
  rw [Nat.zero_add] at this
  rw [hw, cell?_grow _ _ _ (by rw [hsz]; exact hg), this]
  have hx2 := (List.getElem?_eq_some_iff.1 hx).2
  simp [hj, hx2, txt]
theorem holds_of {w1 : World} {g n c B : Nat} {ps : List (List UInt8)} (ho : OwnsT w1 B (.slice (some ⟨g, 0, none⟩) n c) (ps.map txt)) (hn : n = ps.length) : Holds encStr w1 g 0 ps.toArray := by
  intro j hj
  have hj' : j < ps.length := by simpa using hj
  rw [Nat.zero_add]
  refine ⟨?_, ho.unfrozen (by rw [List.length_map]; exact hn) j⟩
  rw [ho.cellAt (x := txt ps[j]) (by rw [List.length_map]; exact hn) (by simp [hj'])]
  simp [hj', txt]
/-- slices.Sort at a slice of texts that is owned. -/
theorem sortT (w1 : World) (g B : Nat) (ps : List (List UInt8)) (ho : OwnsT w1 B (.slice (some ⟨g, 0, none⟩) ps.length ps.length) (ps.map txt)) (hB : B ≤ g) (hg : g < w1.heap.size) (hl : ps.length ≤ 1000000) :
    Calls Tryd.prog 72 #[.slice (some ⟨g, 0, none⟩) ps.length ps.length] w1 fun e w2 => e = .returned (.tuple #[]) ∧ Below B w1 w2 ∧ g < w2.heap.size ∧ ∀ j x, (ps.mergeSort fun x y => decide (x ≤ y))[j]? = some x → w2.cell? ⟨g, j, none⟩ = some (.string (txt x)) :=
  (Tryd.slices_Sort_string g 0 ps.length ps w1 (holds_of ho rfl) hg (by omega)).mono fun e w2 ⟨he, n, os, hw⟩ => ⟨he, sorted_at ho rfl hB hg hw⟩

set_option maxRecDepth 100000 in
set_option maxHeartbeats 4000000 in
theorem implQry (s : ByteArray) (w : World) (hs : s.size ≤ maxLen) :
    Calls Tryd.prog 41 #[.string s] w fun e w' => e = .returned (.string (qryA s)) ∧ Below w.heap.size w w' := by
  unfold maxLen at hs
  by_cases hz : s.size ≤ 200
  · have HN : Hid (txt (qryL s.data.toList) = qryA s) := qryA_yes hz
    have hd : decide (200 < (s.size : Int)) = false := by simp; omega
    have hsum := query_size s
    have HD : Hid (qryL s.data.toList = Lib.join (((splL 38 s.data.toList).mergeSort fun x y => decide (x ≤ y)).filter fulB) [38]) := by
      show qryL s.data.toList = _
      unfold qryL
      rw [merge_srt]
    have hc := fun w => split1 s 38 w (by omega)
    generalize splL 38 s.data.toList = ps at hsum HD hc
    have hpl := sumL_length ps
    have hpo := fun x => split_owns x ps (by unfold maxLen; omega)
    have hml : (ps.mergeSort fun x y => decide (x ≤ y)).length = ps.length := List.length_mergeSort ps
    have hms : sumL (ps.mergeSort fun x y => decide (x ≤ y)) = sumL ps := sumL_perm (List.mergeSort_perm ps _)
    have hst := fun w1 ho hg => sortT w1 w.heap.size w.heap.size ps ho (Nat.le_refl _) hg (by omega)
    generalize (ps.mergeSort fun x y => decide (x ≤ y)) = ms at HD hml hms hst
    go_enter Tryd.func41, Tryd.ntmps41
    go_wp2_with (first | (go_at_call 66; refine (hc _).mono ?_; rintro e w1 ⟨rfl, hw1⟩; have ho1 := hpo w; rw [← hw1] at ho1; have hb1 : Below w.heap.size w w1 := (by rw [hw1]; exact (Below.refl _ w).alloc (Nat.le_refl _) _); have hz1 : w.heap.size < w1.heap.size := (by rw [hw1]; simp); clear hw1) | (go_at_call 72; refine (hst w1 ho1 hz1).mono ?_; rintro e w2 ⟨rfl, hb2, hgz, hcell⟩; have hbw := hb1.trans hb2))
    clear hc hpo hst
    have HM : Hid (ms.length = ps.length) := hml
    clear hml
    go_loopw [4, 16] (fun v i wr => ∃ (k : Nat), k ≤ ps.length ∧ i = .int .i64 k ∧ OwnsB wr w2.heap.size v (Lib.join ((ms.take k).filter fulB) [38]) ∧ Below w2.heap.size w2 wr) (fun _ i _ => ps.length - (intOf i).toNat)
    case atStart => exact ⟨0, Nat.zero_le _, rfl, OwnsB.nil _ _, Below.refl _ _⟩
    case round =>
      obtain ⟨k, hk, rfl, hown, hb⟩ := hrel
      have hbs := hb.size
      have hjl := join_length 38 ((ms.take k).filter fulB)
      have hjf := sumL_filter (ms.take k)
      have hjt := sumL_take ms k
      have hjz : (Lib.join ((ms.take k).filter fulB) [38]).length ≤ 300 := by omega
      clear hjl hjf hjt
      by_cases hlt : k < ps.length
      · have hlt' : k < ms.length := by rw [HM.out]; exact hlt
        have hkc : wr.cell? ⟨w.heap.size, k, none⟩ = some (.string (txt ms[k])) := (hb.cell (p := ⟨w.heap.size, k, none⟩) hgz).trans (hcell k _ (by simp [hlt']))
        have hpz := part_le (List.getElem_mem hlt')
        have hts := txt_size ms[k]
        by_cases hf : ms[k] = []
        · have HF : Hid ((ms.take (k + 1)).filter fulB = (ms.take k).filter fulB) := fil_no hlt' hf
          have hem := txt_empty hf
          clear hf hts
          generalize txt ms[k] = x at hkc hem
          go_wp2
          go_roundw
          case rel => exact ⟨k + 1, by omega, by go_num, by rw [HF.out]; exact hown, hb⟩
          case measure => simp [intOf]; omega
        · have hfs := fil_yes hlt' hf
          have hff := fil_full ms k
          have hem := txt_full hf
          have htd := txt_data ms[k]
          generalize hfk : (ms.take k).filter fulB = fs at hown hfs hff hjz
          by_cases h0 : fs = []
          · have HJ : Hid (Lib.join ((ms.take (k + 1)).filter fulB) [38] = [] ++ (txt ms[k]).data.toList) := by
              show Lib.join ((ms.take (k + 1)).filter fulB) [38] = [] ++ (txt ms[k]).data.toList
              rw [hfs, h0, join_zero, htd]
              rfl
            subst h0
            have hown0 : OwnsB wr w2.heap.size _ [] := hown
            clear hfs hff hf htd hown hjz hfk
            generalize txt ms[k] = x at hkc hem hts HJ
            have hxz : x.size ≤ 300 := by omega
            obtain ⟨a, cp, hv⟩ := hown0.form
            subst hv
            clear hts hpz
            go_wp2_with (at_builtin; refine wpList_pushStr _ rfl (.tmp 28) (.tmp 29) rfl w2.heap.size _ _ x rfl hown0 rfl (by simp; omega) hbs ?_; intro v3 w3 ho3 hg3)
            go_roundw
            case rel => exact ⟨k + 1, by omega, by go_num, by rw [HJ.out]; exact ho3, hb.grown hg3 hbs (OwnsB.from hown0)⟩
            case measure => simp [intOf]; omega
          · have hjn := join_full 38 fs hff h0
            have HJ : Hid (Lib.join ((ms.take (k + 1)).filter fulB) [38] = Lib.join fs [38] ++ [38] ++ (txt ms[k]).data.toList) := by
              show Lib.join ((ms.take (k + 1)).filter fulB) [38] = Lib.join fs [38] ++ [38] ++ (txt ms[k]).data.toList
              rw [hfs, join_snoc 38 fs _ h0, htd]
            clear hfs hff hf htd hfk h0
            generalize txt ms[k] = x at hkc hem hts HJ
            have hxz : x.size ≤ 300 := by omega
            generalize Lib.join fs [38] = L at hown hjz hjn HJ
            have hL0 : 0 < L.length := List.length_pos_iff.2 hjn
            obtain ⟨a, cp, hv⟩ := hown.form
            subst hv
            clear hts hpz hjn
            go_wp2_with (first | (at_builtin; refine wpList_push _ rfl (.tmp 25) (.tmp 26) rfl w2.heap.size _ _ _ 38 rfl rfl hown rfl (by omega) hbs ?_; intro v3 w3 ho3 hg3; have hb3 := hb.grown hg3 hbs (OwnsB.from hown); have hbs3 := hb3.size) | (at_builtin; refine wpList_pushStr _ rfl (.tmp 28) (.tmp 29) rfl w2.heap.size _ _ x rfl ho3 rfl (by simp; omega) hbs3 ?_; intro v4 w4 ho4 hg4))
            go_roundw
            case rel => exact ⟨k + 1, by omega, by go_num, by rw [HJ.out]; exact ho4, hb3.grown hg4 hbs3 (OwnsB.from ho3)⟩
            case measure => simp [intOf]; omega
      · have HE : Hid (txt (Lib.join ((ms.take k).filter fulB) [38]) = qryA s) := by
          show txt (Lib.join ((ms.take k).filter fulB) [38]) = qryA s
          rw [List.take_of_length_le (by rw [HM.out]; omega), ← HD.out]
          exact HN.out
        have hback := hown.text
        have hbf := hbw.trans (hb.mono hbw.size)
        generalize Lib.join ((ms.take k).filter fulB) [38] = L at HE hback hown hjz
        go_wp2
        go_ret
        exact ⟨ret_str4 HE.out, hbf⟩
  · have HN : Hid ((⟨#[]⟩ : ByteArray) = qryA s) := qryA_no (by omega)
    have hd : decide (200 < (s.size : Int)) = true := by simp; omega
    go_enter Tryd.func41, Tryd.ntmps41
    go_wp2
    go_ret
    exact ⟨ret_str4 HN.out, Below.refl _ _⟩
end Go.Proofs.YthadmhleibhlgaaDoor
