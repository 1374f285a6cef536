/-
  Plain facts on messages: a response is read from what it is shown as, and of no part of it; what is read is right.
  The specification's words of a line, by their contract.
  Calls that lay new blocks and draw, and turn nothing that lay before.
-/
import Derived.Test.YteibacmohplblaaGreatDoorG07
import Derived.Test.YteibacmohplblaaGreatDoorG03
import Derived.Test.YteibacmohplblaaGreatDoorRows
import Derived.WalkKit
import Derived.WalkSpells
import Derived.Below
import Derived.Laws.IdiomStrings
import Derived.Shelf.SlSortCmp.QuietGrown
namespace Go.Proofs.YteibacmohplblaaGreatDoor
open Go.RowKit

theorem dec_three {n : Nat} (h : 100 ≤ n) (h2 : n ≤ 999) : (decS n).data.toList.length = 3 := by
  rw [decS_list, numF_step 7 n (by omega), numF_step 6 (n / 10) (by omega), numF_small 6 (n / 10 / 10) (by omega)]
  simp
theorem sta_dec {s : Int} (h : 200 ≤ s ∧ s ≤ 599) : staOk (decS s.toNat).data.toList = true ∧ numV 10 15 (txtL (decS s.toNat).data.toList) = s := by
  have hd := dec_back (n := s.toNat) (by omega)
  have hs : ((s.toNat : Nat) : Int) = s := Int.toNat_of_nonneg (by omega)
  rw [txt_list]
  refine ⟨?_, by rw [hd.2, hs]⟩
  unfold staOk
  rw [txt_list, dec_three (by omega) (by omega), hd.1, hd.2, hs]
  simp [h.1, h.2]
theorem word_tok (s : Int) : tokB (wordS s) = true := by
  unfold wordS
  split <;> decide +kernel
theorem tellR {s : Int} {b : ByteArray} (h : bareB s = true → b.size = 0) (hb : (!bareB s) = false) : b.size = 0 := h (by simpa using hb)
/-- A response is read from what it is shown as, whatever stands behind it. -/
theorem rs_back {r : Rs} (h : 0 < (shRs r).size) (t : List UInt8) : rdRs ((shRs r).data.toList ++ t) = (0, r, ((shRs r).size : Int)) ∧ rsOk r = true := by
  have hok : rsOk r = true := by
    cases e : rsOk r with
    | true => rfl
    | false => unfold shRs at h; rw [e, if_neg (by decide)] at h; exact absurd h (by decide)
  have e : shRs r = msgA (lineR r.s) r.l r.b (!bareB r.s) := by unfold shRs; rw [if_pos hok]
  rw [e] at h ⊢
  have hl := msgA_room h
  have hsz : ((msgA (lineR r.s) r.l r.b (!bareB r.s)).size : Int) = ((msgA (lineR r.s) r.l r.b (!bareB r.s)).data.toList.length : Int) := by simp
  rw [hsz, msgA_list hl]
  obtain ⟨h1, h3, h4, h5⟩ := rsOk_parts hok
  obtain ⟨hw, hcl⟩ := lineR_words h1
  obtain ⟨hs1, hs2⟩ := sta_dec h1
  rw [txt_list] at hs2
  have hr := rst_show (bare := bareB r.s) t h3 h4 hl (tellR h5) (fun x => by rw [x]; rfl)
  refine ⟨?_, hok⟩
  unfold rdRs
  rw [List.append_assoc, lnS_clean _ hcl]
  simp only [hw, hs2, hr, hs1, txt_list, word_tok, and_self, if_true, List.length_append]
  simp
  omega
theorem rs_cut {r : Rs} (h : 0 < (shRs r).size) {k : Nat} (hk : k < (shRs r).size) : (rdRs ((shRs r).data.toList.take k)).1 ≠ 0 ∧ (rdRs ((shRs r).data.toList.take k)).2.2 = 0 := by
  have hok : rsOk r = true := (rs_back h []).2
  have e : shRs r = msgA (lineR r.s) r.l r.b (!bareB r.s) := by unfold shRs; rw [if_pos hok]
  rw [e] at h hk ⊢
  have hl := msgA_room h
  have hsz : (msgA (lineR r.s) r.l r.b (!bareB r.s)).size = (msgA (lineR r.s) r.l r.b (!bareB r.s)).data.toList.length := by simp
  rw [hsz, msgA_list hl] at hk
  rw [msgA_list hl]
  obtain ⟨h1, h3, h4, h5⟩ := rsOk_parts hok
  obtain ⟨hw, hcl⟩ := lineR_words h1
  obtain ⟨hs1, hs2⟩ := sta_dec h1
  rw [txt_list] at hs2
  by_cases hk1 : k < (lineR r.s).data.toList.length + 2
  · unfold rdRs
    rw [lnS_part hcl _ hk1]
    exact ⟨by show (1 : Int) ≠ 0; decide, rfl⟩
  · obtain ⟨j, rfl⟩ : ∃ j, k = ((lineR r.s).data.toList ++ [13, 10]).length + j := ⟨k - ((lineR r.s).data.toList ++ [13, 10]).length, by rw [List.length_append]; simp at hk1 ⊢; omega⟩
    rw [List.take_length_add_append]
    have hq : ((lineR r.s).data.toList ++ [13, 10] ++ tailL r.l r.b (!bareB r.s)).length = ((lineR r.s).data.toList ++ [13, 10]).length + (tailL r.l r.b (!bareB r.s)).length := List.length_append
    have hr := rst_cut (bare := bareB r.s) (k := j) h3 h4 hl (tellR h5) (fun x => by rw [x]; rfl) (by rw [hq] at hk; omega)
    unfold rdRs
    rw [lnS_clean _ hcl]
    simp only [hw, hs2, hs1, txt_list, word_tok, and_self, if_true, if_neg hr]
    exact ⟨hr, trivial⟩

/-! ### What is read is right -/
theorem frm_long {l : List Fl} (h : (frm l).1 = 1) : 0 ≤ (frm l).2 ∧ (frm l).2 ≤ 4000 := by
  unfold frm at h ⊢
  split at h
  · rename_i h0
    rw [if_pos h0]
    split at h
    · rename_i h1
      rw [if_pos h1]
      split at h
      · cases h
      · rename_i h2
        rw [if_neg h2]
        split at h
        · rename_i h3
          rw [if_pos h3]
          refine ⟨?_, h3.2⟩
          show 0 ≤ numV 10 15 (getF l clS).1
          rw [num_yes h3.1]
          have hk := h3.1
          unfold numOk at hk
          rw [Bool.and_eq_true] at hk
          have h1 := of_decide_eq_true hk.1
          have e : (getF l clS).1.data.toList.take (getF l clS).1.size = (getF l clS).1.data.toList := List.take_of_length_le (by simp)
          have := numL_bd 10 (by decide) (getF l clS).1 (getF l clS).1.size (Nat.le_refl _) (by rw [e]; exact hk.2)
          rw [e] at this
          exact this.1
        · cases h
    · split at h
      · split at h <;> cases h
      · cases h
  · cases h
theorem woB_ok {l : List Fl} (h : fldsOk l = true) : ownB (woB l) = true := by
  unfold woB
  refine ownB_mk (fldsOk_filter (fldsOk_filter h _) _) (fun f hf => ?_) (fun f hf => wo_mem hf)
  unfold wo at hf
  exact wo_mem (l := l) (List.mem_filter.1 hf).1
theorem un_small (q : List UInt8) : (unF q).bd.size ≤ 4000 := by
  obtain ⟨_, ⟨b1, _⟩, _, e1, _⟩ := ok_fin (ok_ck0 (bd := ⟨#[]⟩) (by show 0 ≤ 4000; omega)) q
  unfold unF
  omega
theorem rdA_rest {t : List UInt8} {l : List Fl} {q : List UInt8} (h : rdA t = some (l, q)) : q.length + 2 ≤ t.length := rdN_rest 31 [] t h
/-- The three ways a rest is read well. -/
theorem rst_right {t : List UInt8} {bare : Bool} (h : (rstA t bare).k = 0) : ownB (rstA t bare).l = true ∧ (rstA t bare).b.size ≤ 4000 ∧ (bare = true → (rstA t bare).b.size = 0) ∧ (rstA t bare).r.length ≤ t.length := by
  unfold rstA at h ⊢
  cases e : rdA t with
  | none => rw [e] at h; exact absurd h (by show ¬ (2 : Int) = 0; decide)
  | some p =>
    obtain ⟨l, q⟩ := p
    rw [e] at h
    have hq := rdA_rest e
    have hok := rdA_ok e
    simp only at h ⊢
    by_cases h3 : (frm l).1 = 3
    · rw [if_pos h3] at h; exact absurd h (by show ¬ (3 : Int) = 0; decide)
    · rw [if_neg h3] at h ⊢
      by_cases h0 : bare = true ∨ (frm l).1 = 0
      · rw [if_pos h0]
        exact ⟨woB_ok hok, Nat.zero_le _, fun _ => rfl, by show q.length ≤ t.length; omega⟩
      · rw [if_neg h0] at h ⊢
        have hbf : bare = true → False := fun x => h0 (.inl x)
        by_cases h1 : (frm l).1 = 1
        · rw [if_pos h1] at h ⊢
          by_cases h2 : (frm l).2 ≤ (q.length : Int)
          · rw [if_pos h2]
            have := frm_long h1
            refine ⟨woB_ok hok, ?_, fun x => (hbf x).elim, ?_⟩
            · show ((q.take (frm l).2.toNat).toArray).size ≤ 4000
              simp
              omega
            · show (q.drop (frm l).2.toNat).length ≤ t.length
              rw [List.length_drop]; omega
          · rw [if_neg h2] at h; exact absurd h (by show ¬ (4 : Int) = 0; decide)
        · rw [if_neg h1] at h ⊢
          by_cases h2 : (unF q).st = 8
          · rw [if_pos h2]
            refine ⟨woB_ok hok, un_small q, fun x => (hbf x).elim, ?_⟩
            show (q.drop (unN q)).length ≤ t.length
            rw [List.length_drop]; omega
          · rw [if_neg h2] at h; exact absurd h (by show ¬ (4 : Int) = 0; decide)
theorem rq_right {t : List UInt8} (h : (rdRq t).1 = 0) : rqOk (rdRq t).2.1 = true ∧ 0 < (rdRq t).2.2 := by
  unfold rdRq at h ⊢
  cases e : lnS t with
  | none => rw [e] at h; exact absurd h (by show ¬ (1 : Int) = 0; decide)
  | some p =>
    obtain ⟨x, r⟩ := p
    rw [e] at h
    have hlen := congrArg List.length (lnC_length (lnS_some e).1)
    simp at hlen
    simp only at h ⊢
    split at h
    · rename_i m g v hw
      by_cases hc : metB (txtL m) = true ∧ tarB (txtL g) = true ∧ txtL v = hvS
      · rw [if_pos hc] at h ⊢
        by_cases hk : (rstA r false).k = 0
        · rw [if_pos hk]
          obtain ⟨a1, a2, _, a4⟩ := rst_right hk
          refine ⟨?_, by show (0 : Int) < (t.length : Int) - ((rstA r false).r.length : Int); omega⟩
          show rqOk ⟨txtL m, txtL g, (rstA r false).l, (rstA r false).b⟩ = true
          unfold rqOk
          simp only
          rw [hc.1, hc.2.1, a1, decide_eq_true a2]
          rfl
        · rw [if_neg hk] at h; exact absurd h hk
      · rw [if_neg hc] at h; exact absurd h (by show ¬ (1 : Int) = 0; decide)
    · exact absurd h (by show ¬ (1 : Int) = 0; decide)
theorem rs_right {t : List UInt8} (h : (rdRs t).1 = 0) : rsOk (rdRs t).2.1 = true := by
  unfold rdRs at h ⊢
  cases e : lnS t with
  | none => rw [e] at h; exact absurd h (by show ¬ (1 : Int) = 0; decide)
  | some p =>
    obtain ⟨x, r⟩ := p
    rw [e] at h
    simp only at h ⊢
    split at h
    · rename_i v g o hw
      by_cases hc : txtL v = hvS ∧ staOk g = true ∧ tokB (txtL o) = true
      · rw [if_pos hc] at h ⊢
        by_cases hk : (rstA r (bareB (numV 10 15 (txtL g)))).k = 0
        · rw [if_pos hk]
          obtain ⟨a1, a2, a3, _⟩ := rst_right hk
          have hs := hc.2.1
          unfold staOk at hs
          rw [Bool.and_eq_true, Bool.and_eq_true] at hs
          show rsOk ⟨numV 10 15 (txtL g), (rstA r (bareB (numV 10 15 (txtL g)))).l, (rstA r (bareB (numV 10 15 (txtL g)))).b⟩ = true
          unfold rsOk
          simp only
          rw [hs.2.2, a1, decide_eq_true a2]
          cases hb : bareB (numV 10 15 (txtL g)) with
          | false => rfl
          | true => rw [hb] at a3; simp [a3 rfl]
        · rw [if_neg hk] at h; exact absurd h hk
      · rw [if_neg hc] at h; exact absurd h (by show ¬ (1 : Int) = 0; decide)
    · exact absurd h (by show ¬ (1 : Int) = 0; decide)
theorem rq_fails {t : List UInt8} (h : (rdRq t).1 ≠ 0) : (rdRq t).2 = (noQ, 0) := by
  unfold rdRq at h ⊢
  split
  · rfl
  · split
    · split
      · split
        · rename_i _ _ _ _ _ _ e1 _ e2 e3 e4
          simp_all
        · rfl
      · rfl
    · rfl
end Go.Proofs.YteibacmohplblaaGreatDoor
namespace Go.Proofs.YteibacmohplblaaGreatDoor
open Go.RowKit
set_option linter.unusedVariables false

def wrdS (l : List UInt8) : List ByteArray := (wrdL l).map txtL
/-- The words found so far: k bytes looked at, the next word begins at f. -/
def WrdAt (l : List UInt8) (k f : Nat) (ws : List ByteArray) : Prop :=
  (k ≤ l.length ∧ f ≤ k ∧ ws.length ≤ f ∧ (∀ c ∈ (l.drop f).take (k - f), c ≠ 32) ∧ wrdS l = ws ++ wrdS (l.drop f)) ∨ (k = l.length + 1 ∧ ws.length ≤ k ∧ wrdS l = ws)
theorem WrdAt.start (l : List UInt8) : WrdAt l 0 0 [] := .inl ⟨Nat.zero_le _, Nat.le_refl _, Nat.le_refl _, fun c hc => by simp at hc, by simp⟩
theorem WrdAt.space {l : List UInt8} {k f : Nat} {ws : List ByteArray} (h : WrdAt l k f ws) (hk : k < l.length) (h32 : l[k] = 32) : WrdAt l (k + 1) (k + 1) (ws ++ [txtL ((l.drop f).take (k - f))]) := by
  rcases h with ⟨h1, h2, h0, h3, h4⟩ | ⟨h1, _⟩
  · refine .inl ⟨by omega, Nat.le_refl _, by rw [List.length_append, List.length_singleton]; omega, fun c hc => by simp at hc, ?_⟩
    have e : l.drop f = (l.drop f).take (k - f) ++ 32 :: l.drop (k + 1) := by
      have e1 : (l.drop f).drop (k - f) = l.drop k := by rw [List.drop_drop]; congr 1; omega
      rw [← h32, ← List.drop_eq_getElem_cons hk, ← e1, List.take_append_drop]
    rw [h4]
    conv => lhs; rw [show wrdS (l.drop f) = wrdS ((l.drop f).take (k - f) ++ 32 :: l.drop (k + 1)) from congrArg wrdS e]
    unfold wrdS
    rw [wrdL_app _ h3]
    simp
  · omega
theorem WrdAt.more {l : List UInt8} {k f : Nat} {ws : List ByteArray} (h : WrdAt l k f ws) (hk : k < l.length) (h32 : l[k] ≠ 32) : WrdAt l (k + 1) f ws := by
  rcases h with ⟨h1, h2, h0, h3, h4⟩ | ⟨h1, _⟩
  · refine .inl ⟨by omega, by omega, h0, fun c hc => ?_, h4⟩
    have hl : k - f < (l.drop f).length := by rw [List.length_drop]; omega
    rw [show k + 1 - f = k - f + 1 by omega, List.take_succ_eq_append_getElem hl] at hc
    rcases List.mem_append.1 hc with hc | hc
    · exact h3 c hc
    · simp at hc
      rw [hc]
      have : l[f + (k - f)]'(by omega) = l[k] := by congr 1; omega
      rw [this]
      exact h32
  · omega
theorem WrdAt.last {l : List UInt8} {f : Nat} {ws : List ByteArray} (h : WrdAt l l.length f ws) : WrdAt l (l.length + 1) (l.length + 1) (ws ++ [txtL ((l.drop f).take (l.length - f))]) := by
  rcases h with ⟨h1, h2, h0, h3, h4⟩ | ⟨h1, _⟩
  · refine .inr ⟨rfl, by rw [List.length_append, List.length_singleton]; omega, ?_⟩
    have e : (l.drop f).take (l.length - f) = l.drop f := List.take_of_length_le (by rw [List.length_drop]; omega)
    rw [e] at h3 ⊢
    rw [h4]
    unfold wrdS
    rw [wrdL_one h3]
    rfl
  · omega
theorem WrdAt.from {l : List UInt8} {k f : Nat} {ws : List ByteArray} (h : WrdAt l k f ws) (hk : k ≤ l.length) : f ≤ k := by
  rcases h with ⟨h1, h2, _⟩ | ⟨h1, _⟩
  · exact h2
  · omega
theorem WrdAt.few {l : List UInt8} {k f : Nat} {ws : List ByteArray} (h : WrdAt l k f ws) : ws.length ≤ l.length + 1 := by
  rcases h with ⟨h1, h2, h0, _⟩ | ⟨h1, h2, _⟩ <;> omega
theorem WrdAt.all {l : List UInt8} {f : Nat} {ws : List ByteArray} (h : WrdAt l (l.length + 1) f ws) : ws = wrdS l := by
  rcases h with ⟨h1, _⟩ | ⟨_, _, h2⟩
  · omega
  · exact h2.symm
theorem cut_of (s : ByteArray) (f k : Nat) : txtL ((s.data.toList.drop f).take (k - f)) = s.extract f k := by
  refine ba_ext ?_
  show (s.data.toList.drop f).take (k - f) = _
  rw [ByteArray.data_extract, Array.toList_extract, List.extract_eq_take_drop]

set_option maxHeartbeats 1000000 in
theorem specWords (s : ByteArray) (w : World) (hs : s.size ≤ 1048576) :
    Calls Tryz.prog 61 #[.string s] w fun e w' => ∃ u, e = .returned u ∧ OwnsS w' w.heap.size u (wrdS s.data.toList) ∧ Below w.heap.size w w' := by
  have hsl : s.data.toList.length = s.size := by simp
  have HSL : Hid (s.data.toList.length = s.size) := hsl
  go_enter Tryz.func61, Tryz.ntmps61
  go_wp2
  go_loopw [3, 4, 5] (fun a b i wr => ∃ (k f : Nat) (ws : List ByteArray), i = .int .i64 k ∧ b = .int .i64 f ∧ k ≤ s.size + 1 ∧ f ≤ s.size + 1 ∧ Hid (WrdAt s.data.toList k f ws) ∧ OwnsS wr w.heap.size a ws ∧ Hid (Below w.heap.size w wr)) (fun _ _ i _ => s.size + 1 - (intOf i).toNat)
  case atStart => exact ⟨0, 0, [], rfl, rfl, Nat.zero_le _, Nat.zero_le _, WrdAt.start _, OwnsS.born w, (Below.refl _ w).alloc (Nat.le_refl _) _⟩
  case round =>
    obtain ⟨k, f, ws, rfl, rfl, hk, hf, hw, ho, hb⟩ := hrel
    have hfew := hw.out.few
    rw [hsl] at hfew
    clear hsl
    by_cases hend : k ≤ s.size
    · have hfk := hw.out.from (by rw [HSL.out]; exact hend)
      by_cases hlt : k < s.size
      · have hne : ((k : Int) == (s.size : Int)) = false := by simp; omega
        by_cases h32 : (s[k].toNat : Int) = 32
        · have HN : Hid (WrdAt s.data.toList (k + 1) (k + 1) (ws ++ [s.extract f k])) := by
            have := hw.out.space (by rw [HSL.out]; exact hlt) (show s[k] = 32 from UInt8.toNat_inj.1 (by rw [show (32 : UInt8).toNat = 32 from rfl]; omega))
            rw [cut_of] at this
            exact this
          go_wp2_with (at_builtin; refine wpList_pushS _ rfl (.tmp 23) (.tmp 28) rfl w.heap.size _ ws (s.extract f k) rfl ho rfl (by omega) hb.out.size ?_; intro v2 w2 ho2 hg2; have B2 : Hid (Below w.heap.size w w2) := hb.out.grown hg2 hb.out.size (OwnsS.from ho); clear hg2)
          go_roundw
          case rel => exact ⟨k + 1, k + 1, _, by go_num, by go_num, by omega, by omega, HN, ho2, B2⟩
          case measure => simp [intOf]; omega
        · have HN : Hid (WrdAt s.data.toList (k + 1) f ws) := hw.out.more (by rw [HSL.out]; exact hlt) (show s[k] ≠ 32 from fun e => h32 (by rw [e]; rfl))
          have h32b : ((s[k].toNat : Int) == 32) = false := by simpa using h32
          go_wp2
          go_roundw
          case rel => exact ⟨k + 1, f, ws, by go_num, rfl, by omega, hf, HN, ho, hb⟩
          case measure => simp [intOf]; omega
      · obtain rfl : k = s.size := by omega
        have HN : Hid (WrdAt s.data.toList (s.size + 1) (s.size + 1) (ws ++ [s.extract f s.size])) := by
          have := hw.out
          rw [← HSL.out] at this
          have := this.last
          rw [HSL.out, cut_of] at this
          exact this
        go_wp2_with (at_builtin; refine wpList_pushS _ rfl (.tmp 23) (.tmp 28) rfl w.heap.size _ ws (s.extract f s.size) rfl ho rfl (by omega) hb.out.size ?_; intro v2 w2 ho2 hg2; have B2 : Hid (Below w.heap.size w w2) := hb.out.grown hg2 hb.out.size (OwnsS.from ho); clear hg2)
        go_roundw
        case rel => exact ⟨s.size + 1, s.size + 1, _, by go_num, by go_num, by omega, by omega, HN, ho2, B2⟩
        case measure => simp [intOf] <;> omega
    · obtain rfl : k = s.size + 1 := by omega
      have HW : Hid (ws = wrdS s.data.toList) := by
        have := hw.out
        rw [← HSL.out] at this
        exact this.all
      have hgt : ¬ (((s.size + 1 : Nat) : Int) ≤ (s.size : Int)) := by omega
      go_wp2
      go_ret
      refine ⟨_, rfl, ?_, hb.out⟩
      rw [← HW.out]
      exact ho
end Go.Proofs.YteibacmohplblaaGreatDoor
namespace Go.Proofs.YteibacmohplblaaGreatDoor
open Go.RowKit Go.Sort

theorem mixed : Tryz.prog.follows .mixedOrders = true := by kernel_rfl

/-- New blocks and draws alone. -/
def Grew (w w' : World) : Prop := Below w.heap.size w w' ∧ w.drawn ≤ w'.drawn
theorem Grew.refl (w : World) : Grew w w := ⟨Below.refl _ _, Nat.le_refl _⟩
theorem Grew.of_eq {w w' : World} (h : w = w') : Grew w w' := h ▸ Grew.refl w
theorem Grew.trans {a b c : World} (h : Grew a b) (k : Grew b c) : Grew a c :=
  ⟨⟨k.1.os.trans h.1.os, k.1.tape.trans h.1.tape, k.1.output.trans h.1.output, Nat.le_trans h.1.size k.1.size, fun i hi => (k.1.block i (Nat.lt_of_lt_of_le hi h.1.size)).trans (h.1.block i hi)⟩, Nat.le_trans h.2 k.2⟩
theorem Grew.alloc {w w' : World} (h : Grew w w') (o : Obj) : Grew w (w'.alloc o) := ⟨h.1.alloc h.1.size o, h.2⟩
theorem Grew.drew {w w' : World} (h : Grew w w') : Grew w w'.drew := ⟨⟨h.1.os, h.1.tape, h.1.output, h.1.size, h.1.block⟩, Nat.le_trans h.2 (Nat.le_succ _)⟩
theorem Grew.drewN {w w' : World} (h : Grew w w') (n : Nat) : Grew w (w'.drewN n) := ⟨⟨h.1.os, h.1.tape, h.1.output, h.1.size, h.1.block⟩, Nat.le_trans h.2 (Nat.le_add_right _ _)⟩
theorem Grew.put {w w' : World} (h : Grew w w') {b : Nat} (hb : w.heap.size ≤ b) (j : Nat) (v : Value) : Grew w (w'.setCell ⟨b, j, none⟩ v) := ⟨h.1.setCell hb _, h.2⟩
theorem Grew.more {w w' : World} (h : Grew w w') (os : Array Obj) : Grew w (grow w' os) :=
  ⟨⟨h.1.os, h.1.tape, h.1.output, by rw [size_grow]; exact Nat.le_trans h.1.size (Nat.le_add_right _ _), fun k hk => (heap_grow_old _ _ (Nat.lt_of_lt_of_le hk h.1.size)).trans (h.1.block k hk)⟩, h.2⟩
theorem Grew.low {w w' : World} (h : Grew w w') : Below w.heap.size w w' := h.1
theorem Grew.out {w w' : World} (h : Grew w w') : ∃ q os, w' = grow (w.drewN q) os := by
  obtain ⟨⟨ho, ht, hp, hz, hk⟩, hd⟩ := h
  refine ⟨w'.drawn - w.drawn, w'.heap.extract w.heap.size w'.heap.size, ?_⟩
  obtain ⟨heap, tape, drawn, os, output⟩ := w'
  simp only at ho ht hp hz hk hd
  have e1 : w.drawn + (drawn - w.drawn) = drawn := by omega
  have e2 : w.heap ++ heap.extract w.heap.size heap.size = heap := by
    apply Array.ext_getElem?
    intro k
    rw [Array.getElem?_append]
    split
    · next h => exact (hk k h).symm
    · next h =>
      rw [Array.getElem?_extract]
      split
      · next h2 => rw [show w.heap.size + (k - w.heap.size) = k from by omega]
      · next h2 => rw [Array.getElem?_eq_none (by omega)]
  simp only [grow, World.drewN, e1, e2, ho, ht, hp]
theorem Grew.cell {w x : World} {b j : Nat} {v : Value} (hb : Grew w x) (h : w.cell? ⟨b, j, none⟩ = some v) (hB : b < w.heap.size) : x.cell? ⟨b, j, none⟩ = some v := (hb.1.cell (p := ⟨b, j, none⟩) hB).trans h
theorem callGrew {P : Program} {f : FuncId} {args : Array Value} {w : World} {n : Nat} {os : Array Obj} {v : Value}
    (h : Calls P f args (grow (w.drewN n) os) fun e w' => e = .returned v ∧ Grew (grow (w.drewN n) os) w') : Calls P f args (grow (w.drewN n) os) fun e w'' => e = .returned v ∧ ∃ p : GrownBy, w'' = grow (w.drewN p.n) p.os :=
  Calls.grown_of (h.mono fun _ _ ⟨he, hg⟩ => ⟨he, hg.out⟩)
theorem callSame {P : Program} {f : FuncId} {args : Array Value} {w : World} {n : Nat} {os : Array Obj} {v : Value}
    (h : Calls P f args (grow (w.drewN n) os) fun e w' => e = .returned v ∧ grow (w.drewN n) os = w') : Calls P f args (grow (w.drewN n) os) fun e w'' => e = .returned v ∧ ∃ p : GrownBy, w'' = grow (w.drewN p.n) p.os :=
  callGrew (h.mono fun _ _ ⟨he, hg⟩ => ⟨he, Grew.of_eq hg⟩)
/-- What is boxed stays. -/
theorem boxed {w : World} {t : TypeId} {fr : Nat × Nat} (C : Array Value) (j n : Nat) (os : Array Obj) : (grow ((w.alloc (.cells C t fr)).drewN n) os).cell? ⟨w.heap.size, j, none⟩ = C[j]? := by
  rw [cell?_grow _ _ _ (by show w.heap.size < (w.alloc (.cells C t fr)).heap.size; simp)]
  exact World.cell?_alloc_mark w C t fr j
end Go.Proofs.YteibacmohplblaaGreatDoor
