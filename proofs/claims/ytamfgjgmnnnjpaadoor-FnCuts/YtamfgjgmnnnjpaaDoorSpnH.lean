/-
  The specification's ReadSpans by its contract.
-/
import Derived.Test.YtamfgjgmnnnjpaaDoorSpnG
import Derived.Test.YtamfgjgmnnnjpaaDoorItl
namespace Go.Proofs.YtamfgjgmnnnjpaaDoor
open Go.RowKit Go.Sort
set_option linter.unusedVariables false

theorem specIn (x lo hi : Int) (w : World) : Calls Tryd.prog 35 #[.int .i64 x, .int .i64 lo, .int .i64 hi] w fun e w' => e = .returned (.bool (decide (lo ≤ x) && decide (x ≤ hi))) ∧ w = w' := by
  by_cases h : lo ≤ x
  · rw [decide_eq_true h]
    by_cases h2 : x ≤ hi
    · rw [decide_eq_true h2]
      go_enter Tryd.func35, Tryd.ntmps35
      go_wp2
      go_ret
      exact ⟨rfl, rfl⟩
    · rw [decide_eq_false h2]
      go_enter Tryd.func35, Tryd.ntmps35
      go_wp2
      go_ret
      exact ⟨rfl, rfl⟩
  · rw [decide_eq_false h]
    go_enter Tryd.func35, Tryd.ntmps35
    go_wp2
    go_ret
    exact ⟨rfl, rfl⟩
theorem txt_eq8 (a b : ByteArray) : (a.toList == b.toList) = decide (a = b) := by
  by_cases h : a = b
  · subst h; simp
  · rw [decide_eq_false h]
    have : ¬ a.toList = b.toList := fun e => h (by
      have e2 : a.data.toList = b.data.toList := by simpa [ByteArray.toList_eq] using e
      cases a; cases b; simp at e2; rw [e2])
    simp [this]
theorem byE_list : byE.toList = [98, 121, 116, 101, 115, 61] := by unfold byE; rw [ByteArray.toList_eq]
theorem byE_eq (s : ByteArray) : (s.toList == [98, 121, 116, 101, 115, 61]) = decide (s = byE) := by rw [← byE_list]; exact txt_eq8 s byE
theorem pos_len {α : Type} (l : List α) : decide ((0 : Int) < (l.length : Int)) = decide (0 < l.length) := by
  by_cases h : 0 < l.length
  · rw [decide_eq_true h, decide_eq_true (by omega)]
  · rw [decide_eq_false h, decide_eq_false (by omega)]
theorem fresh8 (w : World) (o : Obj) (x : Sp) : ∀ j u, (cellsE spnE [x])[j]? = some u → ((w.alloc o).alloc (.cells #[.int .i64 x.1, .int .i64 x.2] 30)).cell? ((⟨w.heap.size + 1, 0, Option.none⟩ : Addr).add j) = some u := by
  have := fresh_cell (E := spnE) (w.alloc o) x #[.int .i64 x.1, .int .i64 x.2] 30 rfl
  simp only [World.size_alloc] at this
  exact this
set_option maxHeartbeats 4000000 in
theorem specRS (s : ByteArray) (n : Int) (w : World) (hs : s.size ≤ maxLen) (hr0 : -9223372036854775808 ≤ n) (hr1 : n ≤ 9223372036854775807) :
    Calls Tryd.prog 11 #[.string s, .int .i64 n] w fun e w' => ∃ u, e = .returned (.tuple #[u, .bool (decide (0 < (rdS s n).length))]) ∧ OwnsS8 w' w.heap.size u (rdS s n) ∧ Below w.heap.size w w' := by
  have hm := hs
  unfold maxLen at hm
  have hin := fun W => specIn n 0 4000 W
  cases hh : rdH s n with
  | false =>
    have HR : Hid (rdS s n = []) := rdS_no (fun h => by rw [hh] at h; cases h.1)
    have fin : ∀ W, (W = w) → ∃ u, Ending.returned (.tuple #[.slice (some ⟨W.heap.size, 0, Option.none⟩) 0 0, .bool false]) = .returned (.tuple #[u, .bool (decide (0 < (rdS s n).length))]) ∧ OwnsS8 (W.alloc (.cells #[] 30)) w.heap.size u (rdS s n) ∧ Below w.heap.size w (W.alloc (.cells #[] 30)) := fun W hW => by
      subst hW
      rw [HR.out]
      exact ⟨_, rfl, OwnsE.born W, (Below.refl _ W).alloc (Nat.le_refl _) _⟩
    have HF : Hid (∀ W, (W = w) → ∃ u, Ending.returned (.tuple #[.slice (some ⟨W.heap.size, 0, Option.none⟩) 0 0, .bool false]) = .returned (.tuple #[u, .bool (decide (0 < (rdS s n).length))]) ∧ OwnsS8 (W.alloc (.cells #[] 30)) w.heap.size u (rdS s n) ∧ Below w.heap.size w (W.alloc (.cells #[] 30))) := fin
    clear fin
    unfold rdH at hh
    by_cases h6 : 6 ≤ s.size
    · have d6 : decide ((s.size : Int) < 6) = false := decide_eq_false (by omega)
      rw [decide_eq_true h6, Bool.true_and] at hh
      have hq := byE_eq (s.extract 0 6)
      cases he : decide (s.extract 0 6 = byE) with
      | false =>
        rw [he] at hq
        go_enter Tryd.func11, Tryd.ntmps11
        go_wp2
        go_ret2
        exact HF.out w rfl
      | true =>
        rw [he] at hq hh
        rw [Bool.true_and] at hh
        rw [hh] at hin
        go_enter Tryd.func11, Tryd.ntmps11
        go_wp2_with (go_at_call 35; refine (hin _).mono ?_; rintro e w0 ⟨rfl, rfl⟩)
        go_ret2
        exact HF.out w rfl
    · have d6 : decide ((s.size : Int) < 6) = true := decide_eq_true (by omega)
      go_enter Tryd.func11, Tryd.ntmps11
      go_wp2
      go_ret2
      exact HF.out w rfl
  | true =>
    have hh2 := hh
    unfold rdH at hh
    rw [Bool.and_eq_true, Bool.and_eq_true, Bool.and_eq_true] at hh
    have h6 := of_decide_eq_true hh.1
    have hn0 := of_decide_eq_true hh.2.2.1
    have hn1 := of_decide_eq_true hh.2.2.2
    have hq := byE_eq (s.extract 0 6)
    rw [hh.2.1] at hq
    rw [hh.2.2.1, hh.2.2.2] at hin
    have d6 : decide ((s.size : Int) < 6) = false := decide_eq_false (by omega)
    have hyes := @rdS_yes s n hh2
    have hno := @rdS_no s n
    clear hh
    have hit := fun W => specItems (s.extract 6 s.size) W (by unfold maxLen; simp; omega)
    have hsz := items_size (s.extract 6 s.size)
    have hlen : (itemsA (s.extract 6 s.size)).length ≤ 1000 := by have := itemsA_length (s.extract 6 s.size); omega
    have him := fun (t : ByteArray) W (h : t ∈ itemsA (s.extract 6 s.size)) => specItm t n W (by have := hsz t h; omega) hn0 hn1
    generalize rdS s n = RR at hyes hno ⊢
    generalize itemsA (s.extract 6 s.size) = l at hyes hno hit hsz hlen him
    have HY : Hid (l.length ≤ 10 → okI l n = true → RR = outI l n) := hyes
    have HO : Hid (10 < l.length ∨ okI l n = false → RR = []) := fun h => hno (fun h2 => by rcases h with h | h; omega; rw [h] at h2; cases h2.2.2)
    clear hyes hno hsz hh2
    have hll := hlen
    go_enter Tryd.func11, Tryd.ntmps11
    go_wp2_with fail
    refine (hin _).mono ?_
    rintro e w0 ⟨rfl, rfl⟩
    go_wp2_with fail
    refine (hit _).mono ?_
    rintro e w1 ⟨v, rfl, ho, hb1⟩
    have ho' := ho
    obtain ⟨⟨g, cap, rfl, hg0, hg1⟩, _⟩ := ho
    have O1 : Hid (∀ j (hj : j < l.length), w1.cell? ⟨g, j, Option.none⟩ = some (.string l[j])) := ho'.at rfl
    have B1 : Hid (Below w.heap.size w w1) := hb1
    have Z1 : Hid (w.heap.size ≤ w1.heap.size) := hb1.size
    have HG : Hid (g < w1.heap.size) := hg1
    clear hb1 ho' hg0 hg1 hit hin
    go_wp2
    go_loopw [7, 8] (fun u i wr => ∃ (k : Nat) (out : List Sp), k ≤ l.length ∧ i = .int .i64 k ∧ Hid (outI (l.take k) n = out) ∧ out.length ≤ k ∧ Hid (OwnsS8 wr w1.heap.size u out) ∧ (∃ gg cc, u = .slice (some ⟨gg, 0, Option.none⟩) out.length cc) ∧ Hid (Below w1.heap.size w1 wr) ∧ Hid (okI (l.take k) n = true) ∧ Hid (0 < k → l.length ≤ 10)) (fun _ i _ => l.length - (intOf i).toNat)
    case atStart => exact ⟨0, [], Nat.zero_le _, rfl, rfl, Nat.le_refl _, OwnsE.born w1, ⟨_, _, rfl⟩, (Below.refl _ w1).alloc (Nat.le_refl _) _, rfl, fun h => absurd h (Nat.lt_irrefl 0)⟩
    case round =>
      obtain ⟨k, out, hk, rfl, hout, hol, ho2, ⟨gg, cc, rfl⟩, hb, hok, hten⟩ := hrel
      by_cases hlt : k < l.length
      · have hc : wr.cell? ⟨g, k, Option.none⟩ = some (.string l[k]) := (hb.out.cell (p := ⟨g, k, Option.none⟩) HG.out).trans (O1.out k hlt)
        have hr := fun W => him l[k] W (List.getElem_mem hlt)
        have HS := @okI_step l n k hlt hok.out
        have HB := @okI_bad l n k hlt
        have HT := @outI_step l n k hlt
        rw [hout.out] at HT
        unfold pickI at HT
        generalize l[k] = t at hc hr HS HB HT
        cases hro : itmS t n with
        | none =>
          have HR : Hid (RR = []) := HO.out (.inr (HB (by rw [hro]; rfl)))
          simp only [hro, itV_none] at hr
          clear HS HB HT hro
          go_wp2_with (go_at_call 37; refine (hr _).mono ?_; rintro e w2 ⟨rfl, hb2⟩; have B2 : Hid (Below w1.heap.size w1 w2) := hb.out.trans (hb2.mono hb.out.size); clear hb2)
          go_ret2
          refine ⟨.slice (some ⟨w2.heap.size + 1, 0, Option.none⟩) 0 0, by rw [HR.out]; rfl, ?_, ?_⟩
          · rw [HR.out]
            have := (OwnsE.born (E := spnE) (ty := 30) (w2.alloc (.cells #[.int .i64 0, .int .i64 0] 30))).low (B' := w.heap.size) (by have := B2.out.size; have := Z1.out; simp; omega)
            simp only [World.size_alloc] at this
            exact this
          · have := B1.out.trans (B2.out.mono Z1.out)
            exact (this.alloc this.size _).alloc (by have := this.size; simp; omega) _
        | some xq =>
          obtain ⟨x, q⟩ := xq
          have HS2 := HS (by rw [hro]; rfl)
          simp only [hro, itV_some] at hr HT
          clear HS HB hro
          by_cases h10 : 10 < l.length
          · have d10 : decide (10 < (l.length : Int)) = true := decide_eq_true (by omega)
            have HR : Hid (RR = []) := HO.out (.inl h10)
            clear HS2 HT
            go_wp2_with (go_at_call 37; refine (hr _).mono ?_; rintro e w2 ⟨rfl, hb2⟩; have B2 : Hid (Below w1.heap.size w1 w2) := hb.out.trans (hb2.mono hb.out.size); clear hb2)
            go_ret2
            refine ⟨.slice (some ⟨w2.heap.size + 1, 0, Option.none⟩) 0 0, by rw [HR.out]; rfl, ?_, ?_⟩
            · rw [HR.out]
              have := (OwnsE.born (E := spnE) (ty := 30) (w2.alloc (.cells #[.int .i64 x.1, .int .i64 x.2] 30))).low (B' := w.heap.size) (by have := B2.out.size; have := Z1.out; simp; omega)
              simp only [World.size_alloc] at this
              exact this
            · have := B1.out.trans (B2.out.mono Z1.out)
              exact (this.alloc this.size _).alloc (by have := this.size; simp; omega) _
          · have d10 : decide (10 < (l.length : Int)) = false := decide_eq_false (by omega)
            have HK : Hid (okI (l.take (k + 1)) n = true) := HS2
            clear HS2
            go_wp2_with fail
            refine (hr _).mono ?_
            rintro e w2 ⟨rfl, hb2⟩
            have B2 : Hid (Below w1.heap.size w1 w2) := hb.out.trans (hb2.mono hb.out.size)
            have O2 : Hid (OwnsS8 w2 w1.heap.size (.slice (some ⟨gg, 0, Option.none⟩) out.length cc) out) := ho2.out.kept hb2
            have T2 : Hid (SpBk (w2.alloc (.cells #[.int .i64 x.1, .int .i64 x.2] 30)) w2.heap.size x) := SpBk.new w2 x 30
            clear hb2 hr ho2 hb
            cases q with
            | false =>
              have HN : Hid (outI (l.take (k + 1)) n = out) := (by rw [HT]; simp : outI (l.take (k + 1)) n = out)
              clear HT
              go_wp2
              go_roundw
              case rel => exact ⟨k + 1, out, by omega, by go_num, HN, by omega, O2.out.alloc _, ⟨gg, cc, rfl⟩, B2.out.alloc B2.out.size _, HK, fun _ => by omega⟩
              case measure => simp [intOf]; omega
            | true =>
              have HN : Hid (outI (l.take (k + 1)) n = out ++ [x]) := (by rw [HT]; rfl : outI (l.take (k + 1)) n = out ++ [x])
              have t0 := T2.out.c0
              have t1 := T2.out.c1
              clear HT
              go_wp2_with (at_builtin; refine wpList_rowE (E := spnE) _ rfl (.tmp 55) (.tmp 57) 26 30 (.agg #[.int .i64 0, .int .i64 0]) 16 Tryd.underlying26 Tryd.infoSP rfl rfl w1.heap.size _ out (by simp [Act.eval]) ((O2.out.alloc _).alloc _) ⟨w2.heap.size + 1, 0, Option.none⟩ 1 [x] (by simp [Act.eval]) (fresh8 w2 _ x) (by simp only [List.length_singleton]; unfold maxLen; omega) (by simp only [List.length_singleton]; omega) (by have := B2.out.size; simp; omega) ?_; intro v6 w6 ho6 hg6 hn6; have O6 : Hid (OwnsS8 w6 w1.heap.size v6 (out ++ [x])) := ho6; have G6 : Hid _ := hg6; clear ho6 hg6 hn6)
              have b6 : Hid (Below w1.heap.size w1 w6) := belowE ((B2.out.alloc B2.out.size _).alloc (by have := B2.out.size; simp; omega) _) G6.out (by have := B2.out.size; simp; omega) (fun q hq => O2.out.from q hq)
              obtain ⟨a6, c6, rfl, hl6, hm6, hf6⟩ := O6.out.form
              obtain ⟨g6, rfl⟩ : ∃ g6, a6 = some ⟨g6, 0, Option.none⟩ := by
                rcases hf6 with ⟨rfl, rfl⟩ | hf6
                · exact absurd hl6 (by simp)
                · exact hf6
              clear hf6 G6
              go_roundw
              case rel => exact ⟨k + 1, out ++ [x], by omega, by go_num, HN, by simp; omega, O6, ⟨g6, c6, rfl⟩, b6, HK, fun _ => by omega⟩
              case measure => simp [intOf]; omega
      · obtain rfl : k = l.length := by omega
        rw [List.take_length] at *
        have h10 : l.length ≤ 10 := by
          rcases Nat.eq_zero_or_pos l.length with h | h
          · omega
          · exact hten.out h
        have HR : Hid (RR = out) := (HY.out h10 hok.out).trans hout.out
        have O9 : Hid (OwnsS8 wr w.heap.size (.slice (some ⟨gg, 0, Option.none⟩) out.length cc) RR) := by show OwnsS8 _ _ _ _; rw [HR.out]; exact ho2.out.low Z1.out
        have HD : Hid (decide (0 < out.length) = decide (0 < RR.length)) := by show _ = _; rw [HR.out]
        clear ho2 hout
        go_wp2
        go_ret2
        exact ⟨.slice (some ⟨gg, 0, Option.none⟩) out.length cc, by rw [← HD.out]; rfl, O9.out, B1.out.trans (hb.out.mono Z1.out)⟩
end Go.Proofs.YtamfgjgmnnnjpaaDoor
