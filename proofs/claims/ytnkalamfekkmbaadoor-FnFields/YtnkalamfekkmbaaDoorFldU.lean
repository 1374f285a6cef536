/-
  The contracts of the specification's line and of the program's field of a line.
-/
import Derived.Test.YtnkalamfekkmbaaDoorFldT
import Derived.Test.YtnkalamfekkmbaaDoorFldX
import Derived.Test.YtnkalamfekkmbaaDoorFldB
import Derived.Test.YtnkalamfekkmbaaDoorShelfC
import Derived.Test.YtnkalamfekkmbaaDoorFldA
namespace Go.Proofs.YtnkalamfekkmbaaDoor
open Go.RowKit Go.Sort

set_option maxHeartbeats 1000000 in
theorem specLine (s : ByteArray) (k : Nat) (w : World) (hk : k ≤ s.size) (hs : s.size ≤ 2000000) :
    Calls Tryd.prog 53 #[.string s, .int .i64 k] w fun e w' => e = .returned (lineE s (lnS (s.data.toList.drop k))) ∧ w = w' := by
  go_enter Tryd.func53, Tryd.ntmps53
  go_wp2
  go_loopw [7] (fun i wr => ∃ j : Nat, k ≤ j ∧ j ≤ s.size ∧ i = .int .i64 j ∧ Hid (LnAt s k j) ∧ wr = w) (fun i _ => s.size - (intOf i).toNat)
  case atStart => exact ⟨k, Nat.le_refl _, hk, rfl, LnAt.start s k, rfl⟩
  case round =>
    obtain ⟨j, hkj, hj, rfl, hat, rfl⟩ := hrel
    by_cases hlt : j < s.size
    · by_cases h10 : (s[j].toNat : Int) = 10
      · have HN : Hid (lnS (s.data.toList.drop k) = none) := hat.out.ten hlt (byte_is h10)
        have hq := ieq_yes h10
        clear h10
        go_wp2
        go_ret3
        exact ⟨lineE_none HN.out, rfl⟩
      · have hq := ieq_no h10
        by_cases h13 : (s[j].toNat : Int) = 13
        · have hq3 := ieq_yes h13
          by_cases hj1 : j + 1 < s.size
          · by_cases hn : (s[j + 1].toNat : Int) = 10
            · have HN : Hid (lnS (s.data.toList.drop k) = some (cutL s.data.toList k j, s.data.toList.drop (j + 2))) := hat.out.found hj1 (byte_is h13) (byte_is hn)
              have hqn := ieq_yes hn
              clear h10 h13 hn
              go_wp2
              go_ret3
              exact ⟨lineE_some HN.out hj1, rfl⟩
            · have HN : Hid (lnS (s.data.toList.drop k) = none) := hat.out.lone hlt (byte_is h13) (fun _ e => hn (by rw [e]; rfl))
              have hqn := ieq_no hn
              clear h10 h13 hn
              go_wp2
              go_ret3
              exact ⟨lineE_none HN.out, rfl⟩
          · have HN : Hid (lnS (s.data.toList.drop k) = none) := hat.out.lone hlt (byte_is h13) (fun h => absurd h hj1)
            have hd : decide ((j : Int) + 1 < (s.size : Int)) = false := decide_eq_false (by omega)
            clear h10 h13
            go_wp2
            go_ret3
            exact ⟨lineE_none HN.out, rfl⟩
        · have hq3 := ieq_no h13
          have HN : Hid (LnAt s k (j + 1)) := hat.out.next hlt hkj (fun e => h13 (by rw [e]; rfl)) (fun e => h10 (by rw [e]; rfl))
          clear h10 h13
          go_wp2
          go_roundw
          case rel => exact ⟨j + 1, by omega, by omega, by go_num, HN, trivial⟩
          case measure => simp [intOf]; omega
    · have HN : Hid (lnS (s.data.toList.drop k) = none) := hat.out.done hlt
      go_wp2
      go_ret3
      exact ⟨lineE_none HN.out, rfl⟩

/-- What the program's field of a line answers. -/
def rdFE : Option Fl → Value
  | none => .tuple #[.agg #[.string ⟨#[]⟩, .string ⟨#[]⟩], .bool false]
  | some f => .tuple #[.agg #[.string f.1, .string f.2], .bool true]
theorem box_cells {w : World} {b : Nat} {p q : ByteArray} (h : w.heap[b]? = some (.cells #[.string p, .string q] 53)) : w.cell? ⟨b, 0, none⟩ = some (.string p) ∧ w.cell? ⟨b, 1, none⟩ = some (.string q) ∧ w.frozen? ⟨b, 0, none⟩ = false ∧ w.frozen? ⟨b, 1, none⟩ = false :=
  ⟨by rw [cell_of_row w _ 0 _ _ _ h]; rfl, by rw [cell_of_row w _ 1 _ _ _ h]; rfl, frozen_of_row w b 0 _ _ h, frozen_of_row w b 1 _ _ h⟩
theorem below_block {w w' : World} {b : Nat} {o : Obj} (h : w.heap[b]? = some o) (hb : Below w.heap.size w w') : w'.heap[b]? = some o := by
  rw [hb.block b (Array.getElem?_eq_some_iff.1 h).1]; exact h
theorem drewN_below (w : World) (n : Nat) : Below w.heap.size w (w.drewN n) := ⟨rfl, rfl, rfl, Nat.le_refl _, fun _ _ => rfl⟩
theorem len_app {x a b : List UInt8} (h : colL x = some (a, b)) : a.length + b.length + 1 = x.length := by
  rw [(colL_is h).1]; simp; omega
theorem txt_size (l : List UInt8) : (⟨l.toArray⟩ : ByteArray).size = l.length := by show l.toArray.size = _; simp

set_option maxHeartbeats 2000000 in
theorem implRdF (x : ByteArray) (m : Int) (w : World) (hm : w.cell? ⟨0, 0, none⟩ = some (.int .i64 m)) (hx : x.size ≤ 1048576) :
    Calls Tryd.prog 47 #[.string x] w fun e w' => e = .returned (rdFE (rdF x.data.toList)) ∧ Below w.heap.size w w' := by
  have b0 : (w.alloc (.cells #[.string ⟨#[]⟩, .string ⟨#[]⟩] 53)).heap[w.heap.size]? = some (.cells #[.string ⟨#[]⟩, .string ⟨#[]⟩] 53) := heap_alloc_new w _
  have bl := box_lt w (.cells #[.string ⟨#[]⟩, .string ⟨#[]⟩] 53)
  have hba := (Below.refl w.heap.size w).alloc (Nat.le_refl _) (.cells #[.string ⟨#[]⟩, .string ⟨#[]⟩] 53)
  have hm0 := ((Below.refl w.heap.size w).alloc (Nat.le_refl _) (.cells #[.string ⟨#[]⟩, .string ⟨#[]⟩] 53)).cell (p := ⟨0, 0, none⟩) (cell_lt hm) |>.trans hm
  have hxl : x.data.toList.length = x.size := by simp
  have hcut := Tryd.strings_Cut x ⟨#[58]⟩ m _ (by omega) hm0
  rw [show (⟨#[58]⟩ : ByteArray).data.toList = [58] from rfl, cut_col] at hcut
  cases hc : colL x.data.toList with
  | none =>
    rw [hc] at hcut
    rw [rdF_col hc]
    simp only [text_of] at hcut
    go_enter Tryd.func47, Tryd.ntmps47
    go_wp2_with fail
    refine hcut.mono ?_
    rintro e w1 ⟨rfl, q, rfl⟩
    go_wp2_with fail
    refine (clone x _ hx).mono ?_
    rintro e w2 ⟨rfl, hb2⟩
    go_wp2_with fail
    refine (implTrim ⟨#[]⟩ _ (by decide)).mono ?_
    rintro e w3 ⟨rfl, hb3⟩
    have d3 := below_block (below_block (show ((w.alloc (.cells #[.string ⟨#[]⟩, .string ⟨#[]⟩] 53)).drewN q).heap[w.heap.size]? = _ from b0) hb2) hb3
    have hb03 : Below w.heap.size w w3 := (hba.trans ((show Below (w.alloc (.cells #[.string ⟨#[]⟩, .string ⟨#[]⟩] 53)).heap.size (w.alloc (.cells #[.string ⟨#[]⟩, .string ⟨#[]⟩] 53)) w2 from ⟨hb2.os, hb2.tape, hb2.output, hb2.size, hb2.block⟩).mono (Nat.le_of_lt bl))).trans (hb3.mono (Nat.le_trans (Nat.le_of_lt bl) hb2.size))
    have d4 := below_block d3 ((Below.refl w3.heap.size w3).alloc (Nat.le_refl _) (.cells #[.string x, .string (trimB ⟨#[]⟩)] 53))
    have hb04 := hb03.alloc hb03.size (.cells #[.string x, .string (trimB ⟨#[]⟩)] 53)
    obtain ⟨c0, c1, f0, f1⟩ := box_cells d4
    clear b0 d3 d4 hb2 hb3 hb03 hcut hba
    go_wp2
    refine bodyPost_ret (v := .tuple #[.agg #[.string ⟨#[]⟩, .string ⟨#[]⟩], .bool false]) (by simp [results, Tryd.results47, go_sem, c0, c1]) rfl ⟨rfl, (hb04.setCell (Nat.le_refl _) _).setCell (Nat.le_refl _) _⟩
  | some p =>
    obtain ⟨a, b⟩ := p
    rw [hc] at hcut
    have hlen := len_app hc
    have za := txt_size a
    have zb := txt_size b
    have zt := trimB_size ⟨b.toArray⟩
    cases hok : fldOk (fldT a b) with
    | false =>
      rw [rdF_no hc hok]
      unfold fldT at hok
      generalize (⟨a.toArray⟩ : ByteArray) = n0 at hcut hok za
      generalize (⟨b.toArray⟩ : ByteArray) = v0 at hcut hok zb zt
      go_enter Tryd.func47, Tryd.ntmps47
      go_wp2_with fail
      refine hcut.mono ?_
      rintro e w1 ⟨rfl, q, rfl⟩
      go_wp2_with fail
      refine (clone n0 _ (by omega)).mono ?_
      rintro e w2 ⟨rfl, hb2⟩
      go_wp2_with fail
      refine (implTrim v0 _ (by omega)).mono ?_
      rintro e w3 ⟨rfl, hb3⟩
      have d3 := below_block (below_block (show ((w.alloc (.cells #[.string ⟨#[]⟩, .string ⟨#[]⟩] 53)).drewN q).heap[w.heap.size]? = _ from b0) hb2) hb3
      have hb03 : Below w.heap.size w w3 := (hba.trans ((show Below (w.alloc (.cells #[.string ⟨#[]⟩, .string ⟨#[]⟩] 53)).heap.size (w.alloc (.cells #[.string ⟨#[]⟩, .string ⟨#[]⟩] 53)) w2 from ⟨hb2.os, hb2.tape, hb2.output, hb2.size, hb2.block⟩).mono (Nat.le_of_lt bl))).trans (hb3.mono (Nat.le_trans (Nat.le_of_lt bl) hb2.size))
      have d3a := below_block d3 ((Below.refl w3.heap.size w3).alloc (Nat.le_refl _) (.cells #[.string n0, .string (trimB v0)] 53))
      have d3b : (w3.alloc (.cells #[.string n0, .string (trimB v0)] 53)).heap[w3.heap.size]? = some (.cells #[.string n0, .string (trimB v0)] 53) := heap_alloc_new w3 _
      have hb03a := hb03.alloc hb03.size (.cells #[.string n0, .string (trimB v0)] 53)
      clear b0 d3 hb2 hb3 hb03 hcut hba
      go_wp2_with (go_at_call 43; refine (implFld (n0, trimB v0) _ (show n0.size ≤ 1048576 by omega) (show (trimB v0).size ≤ 1048576 by omega)).mono ?_; rw [hok]; rintro e w4 ⟨rfl, hb4⟩; have d4 := below_block d3a hb4; have d4b := below_block d3b hb4; have hb04 := hb03a.trans (hb4.mono hb03a.size); obtain ⟨c0, c1, f0, f1⟩ := box_cells d4; obtain ⟨e0, e1, _, _⟩ := box_cells d4b; clear d3a d3b d4 d4b hb4)
      refine bodyPost_ret (v := .tuple #[.agg #[.string ⟨#[]⟩, .string ⟨#[]⟩], .bool false]) (by simp [results, Tryd.results47, go_sem, c0, c1]) rfl ⟨rfl, (hb04.setCell (Nat.le_refl _) _).setCell (Nat.le_refl _) _⟩
    | true =>
      rw [rdF_yes hc hok]
      unfold fldT at hok ⊢
      generalize (⟨a.toArray⟩ : ByteArray) = n0 at hcut hok za ⊢
      generalize (⟨b.toArray⟩ : ByteArray) = v0 at hcut hok zb zt ⊢
      go_enter Tryd.func47, Tryd.ntmps47
      go_wp2_with fail
      refine hcut.mono ?_
      rintro e w1 ⟨rfl, q, rfl⟩
      go_wp2_with fail
      refine (clone n0 _ (by omega)).mono ?_
      rintro e w2 ⟨rfl, hb2⟩
      go_wp2_with fail
      refine (implTrim v0 _ (by omega)).mono ?_
      rintro e w3 ⟨rfl, hb3⟩
      have d3 := below_block (below_block (show ((w.alloc (.cells #[.string ⟨#[]⟩, .string ⟨#[]⟩] 53)).drewN q).heap[w.heap.size]? = _ from b0) hb2) hb3
      have hb03 : Below w.heap.size w w3 := (hba.trans ((show Below (w.alloc (.cells #[.string ⟨#[]⟩, .string ⟨#[]⟩] 53)).heap.size (w.alloc (.cells #[.string ⟨#[]⟩, .string ⟨#[]⟩] 53)) w2 from ⟨hb2.os, hb2.tape, hb2.output, hb2.size, hb2.block⟩).mono (Nat.le_of_lt bl))).trans (hb3.mono (Nat.le_trans (Nat.le_of_lt bl) hb2.size))
      have d3a := below_block d3 ((Below.refl w3.heap.size w3).alloc (Nat.le_refl _) (.cells #[.string n0, .string (trimB v0)] 53))
      have d3b : (w3.alloc (.cells #[.string n0, .string (trimB v0)] 53)).heap[w3.heap.size]? = some (.cells #[.string n0, .string (trimB v0)] 53) := heap_alloc_new w3 _
      have hb03a := hb03.alloc hb03.size (.cells #[.string n0, .string (trimB v0)] 53)
      clear b0 d3 hb2 hb3 hb03 hcut hba
      go_wp2_with (go_at_call 43; refine (implFld (n0, trimB v0) _ (show n0.size ≤ 1048576 by omega) (show (trimB v0).size ≤ 1048576 by omega)).mono ?_; rw [hok]; rintro e w4 ⟨rfl, hb4⟩; have d4 := below_block d3a hb4; have d4b := below_block d3b hb4; have hb04 := hb03a.trans (hb4.mono hb03a.size); obtain ⟨c0, c1, f0, f1⟩ := box_cells d4; obtain ⟨e0, e1, _, _⟩ := box_cells d4b; clear d3a d3b d4 d4b hb4)
      refine bodyPost_ret (v := .tuple #[.agg #[.string n0, .string (trimB v0)], .bool true]) (by simp [results, Tryd.results47, go_sem, c0, c1]) rfl ⟨rfl, (hb04.setCell (Nat.le_refl _) _).setCell (Nat.le_refl _) _⟩
end Go.Proofs.YtnkalamfekkmbaaDoor
