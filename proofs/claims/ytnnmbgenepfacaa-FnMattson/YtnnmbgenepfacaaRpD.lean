/-
  The program's Distance.
-/
import Derived.Test.YtnnmbgenepfacaaRpC
import Derived.Test.YtnnmbgenepfacaaRomD
namespace Go.Proofs.Ytnnmbgenepfacaa
open Go.RowKit Go.Sort Rom
set_option linter.unusedVariables false
set_option linter.unusedSimpArgs false

theorem told_trc1 {t : List Int} : toldB t 1 = trcB t := by rw [told_trc]; show (trcB t && true) = _; rw [Bool.and_true]
theorem dis_hit {x : Int} {seen ys : List Int} (h : x ∉ seen) : disF x seen (x :: ys) = seen.length + 1 := by
  rw [disF_next, if_pos rfl, if_neg h, List.length_append]
  rfl
theorem dis_old {x y : Int} {seen ys : List Int} (h : y ≠ x) (hm : y ∈ seen) : disF x seen (y :: ys) = disF x seen ys := by
  rw [disF_next, if_neg h, if_pos hm]
theorem dis_new {x y : Int} {seen ys : List Int} (h : y ≠ x) (hm : y ∉ seen) : disF x seen (y :: ys) = disF x (seen ++ [y]) ys := by
  rw [disF_next, if_neg h, if_neg hm]
set_option maxRecDepth 100000 in
set_option maxHeartbeats 4000000 in
theorem implDisIn (v : Value) (t : List Int) (n : Nat) (w : World) (h : Sls numE w v t) (hl : t.length ≤ 60) (hT : trcB t = true) (hn : n < t.length) :
    Calls Try.prog 21 #[v, .int .i64 (n : Int)] w fun e w' => e = .returned (.int .i64 (dis t n : Int)) ∧ Below w.heap.size w w' := by
  have HT := implTrc _ t w h
  rw [hT] at HT
  obtain ⟨a, cap, rfl, h1, h2, h3⟩ := h.one
  obtain ⟨g, q, rfl, hg, hc⟩ := h3 (by omega)
  have HX : Hid (∀ (k : Nat) (hk : k < t.length) (W : World), Below w.heap.size w W → W.cell? ⟨g, q + k, none⟩ = some (.int .i64 t[k])) := fun k hk W hW => (hW.cell (p := ⟨g, q + k, none⟩) hg).trans (hc k hk)
  have HD : Hid (dis t n = disF t[n] [] (t.take n).reverse) := by
    show _ = _
    unfold dis
    have e : t.getD n 0 = t[n] := by simp [hn]
    rw [e]
  have HN : Hid (∀ W, Below w.heap.size w W → W.cell? ⟨g, q + n, none⟩ = some (.int .i64 t[n])) := HX.out n hn
  generalize t[n] = x at HD HN
  generalize dis t n = D at HD ⊢
  have c0 := HN.out w (Below.refl _ _)
  clear h h2 h3 hc hT
  have hni : (n : Int) < (t.length : Int) := by omega
  go_enter Try.func21, Try.ntmps21
  go_wp2_with (go_at_call 53; refine HT.mono ?_; rintro e w' ⟨rfl, rfl⟩)
  clear HT c0
  rw [decide_eq_false (show ¬ ((n : Int) < 0) by omega), decide_eq_false (show ¬ (t.length ≤ n) by omega)]
  simp only [Bool.or_false]
  go_loopw [5, 6] (fun s i wr => ∃ (k : Nat) (sa : Option Addr) (sc : Nat) (seen : List Int), k ≤ n ∧ i = .int .i64 ((k : Int) - 1) ∧ s = .slice sa (x :: seen).length sc ∧ Hid (seen.length + k ≤ n) ∧ Hid (x ∉ seen) ∧ Hid (D = disF x seen (t.take k).reverse) ∧ Hid (OwnsN wr w.heap.size (.slice sa (x :: seen).length sc) (x :: seen)) ∧ Hid (Below w.heap.size w wr)) (fun _ i _ => (intOf i + 1).toNat)
  case atStart => exact ⟨n, _, _, [], Nat.le_refl _, rfl, rfl, (show ([] : List Int).length + n ≤ n from by simp), (show x ∉ [] from List.not_mem_nil), HD, (show Hid _ from ownsN_lit w x), (show Hid _ from (Below.refl _ w).alloc (Nat.le_refl _) _)⟩
  case round =>
    clear HD
    obtain ⟨k, sa, sc, seen, hk, rfl, rfl, hsl, hnx, hD, ho, hb⟩ := hrel
    rcases k with _ | m
    · have HE : Hid (((0 : Nat) : Int) = (D : Int)) := by
        show _ = _
        rw [hD.out]
        rfl
      go_wp2
      go_ret
      exact ⟨congrArg (fun z => Ending.returned (.int .i64 z)) HE.out, hb.out⟩
    · have hml : m < t.length := by omega
      have HY : Hid (∀ W, Below w.heap.size w W → W.cell? ⟨g, q + m, none⟩ = some (.int .i64 t[m])) := HX.out m hml
      have hD2 : Hid (D = disF x seen (t[m] :: (t.take m).reverse)) := by
        show _ = _
        rw [← rev_next hml]
        exact hD.out
      generalize t[m] = y at HY hD2
      have c1 := HY.out wr hb.out
      have c2 := HN.out wr hb.out
      have hslo := hsl.out
      have hmi : (m : Int) < (t.length : Int) := by omega
      have hmw : IntKind.i64.wrap (((m + 1 : Nat) : Int) - 1) = (m : Int) := by rw [IntKind.wrap_i64]; omega
      rw [show (((m + 1 : Nat) : Int) - 1) = (m : Int) from by omega]
      clear hmw hD
      by_cases hyx : y = x
      · have HE : Hid ((((x :: seen).length : Nat) : Int) = (D : Int)) := by
          show _ = _
          rw [hD2.out, hyx, dis_hit hnx.out, List.length_cons]
        have e1 : (y == x) = true := by simpa using hyx
        generalize x :: seen = S at ho HE ⊢
        go_wp2_with fail
        go_quiet (fail)
        have hb3 : Hid (Below w.heap.size w (wr.drewN nq)) := (show Hid _ from ⟨hb.out.os, hb.out.tape, hb.out.output, hb.out.size, hb.out.block⟩)
        generalize wr.drewN nq = w1 at hb3 ⊢
        go_wp2
        go_ret
        exact ⟨congrArg (fun z => Ending.returned (.int .i64 z)) HE.out, hb3.out⟩
      · have e1 : (y == x) = false := by simpa using hyx
        by_cases hys : y ∈ seen
        · have hD3 : Hid (D = disF x seen (t.take m).reverse) := by show _ = _; rw [hD2.out, dis_old hyx hys]
          have hin : y ∈ x :: seen := List.mem_cons_of_mem _ hys
          go_wp2_with fail
          go_quiet (fail)
          have hb3 : Hid (Below w.heap.size w (wr.drewN nq)) := (show Hid _ from ⟨hb.out.os, hb.out.tape, hb.out.output, hb.out.size, hb.out.block⟩)
          have ho3 : Hid (OwnsN (wr.drewN nq) w.heap.size (.slice sa (x :: seen).length sc) (x :: seen)) := ho
          have d1 : (wr.drewN nq).cell? ⟨g, q + m, none⟩ = some (.int .i64 y) := c1
          clear c1 c2 hb ho
          generalize wr.drewN nq = w1 at hb3 ho3 d1 ⊢
          have hco := conN _ _ y w1 ho3.out.sls
          rw [decide_eq_true hin] at hco
          clear hin hys hyx
          go_wp2_with (go_at_call 59; refine hco.mono ?_; rintro e w' ⟨rfl, rfl⟩)
          go_roundw
          case rel => exact ⟨m, sa, sc, seen, by omega, by go_num, rfl, (show _ ≤ _ from by omega), hnx, hD3, ho3, hb3⟩
          case measure => first | (simp [intOf]; done) | (simp [intOf]; omega)
        · have hD3 : Hid (D = disF x (seen ++ [y]) (t.take m).reverse) := by show _ = _; rw [hD2.out, dis_new hyx hys]
          have hin : y ∉ x :: seen := fun hm => by
            rcases List.mem_cons.1 hm with e | e
            · exact hyx e
            · exact hys e
          have hnx2 : Hid (x ∉ seen ++ [y]) := (show x ∉ seen ++ [y] from fun hm => by
            rcases List.mem_append.1 hm with e | e
            · exact hnx.out e
            · exact hyx (List.mem_singleton.1 e).symm)
          go_wp2_with fail
          go_quiet (fail)
          have hb3 : Hid (Below w.heap.size w (wr.drewN nq)) := (show Hid _ from ⟨hb.out.os, hb.out.tape, hb.out.output, hb.out.size, hb.out.block⟩)
          have ho3 : Hid (OwnsN (wr.drewN nq) w.heap.size (.slice sa (x :: seen).length sc) (x :: seen)) := ho
          have d1 : (wr.drewN nq).cell? ⟨g, q + m, none⟩ = some (.int .i64 y) := c1
          clear c1 c2 hb ho
          generalize wr.drewN nq = w1 at hb3 ho3 d1 ⊢
          have hco := conN _ _ y w1 ho3.out.sls
          rw [decide_eq_false hin] at hco
          clear hin hys hyx
          have hxl : Hid ((x :: (seen ++ [y])) = (x :: seen) ++ [y]) := rfl
          go_wp2_with (first | (go_at_call 59; refine hco.mono ?_; rintro e w' ⟨rfl, rfl⟩) | (at_builtin; refine wpList_pushN _ rfl (.tmp 49) (.tmp 54) rfl w.heap.size _ (x :: seen) y rfl ho3.out rfl (by simp; omega) hb3.out.size ?_; intro v4 w4 ho4 hg4; obtain ⟨a4, c4, hv4, _, _⟩ := ho4.form; subst hv4))
          go_roundw
          case rel => exact ⟨m, a4, c4, seen ++ [y], by omega, by go_num, by simp, (show (seen ++ [y]).length + m ≤ n from by rw [List.length_append]; simp; omega), hnx2, hD3, (show Hid _ from ho4), (show Hid _ from belowE hb3.out hg4 hb3.out.size (OwnsE.from ho3.out))⟩
          case measure => first | (simp [intOf]; done) | (simp [intOf]; omega)
theorem implDis (v : Value) (t : List Int) (i : Int) (w : World) (h : Sls numE w v t) (hlen : t.length ≤ 1048576) :
    Calls Try.prog 21 #[v, .int .i64 i] w fun e w' => e = .returned (.int .i64 (disA t i)) ∧ Below w.heap.size w w' := by
  have HT := implTrc _ t w h
  cases hT : trcB t with
  | false =>
    rw [hT] at HT
    obtain ⟨a, cap, rfl, _⟩ := h.one
    have HR : Hid (-1 = disA t i) := by show _ = _; unfold disA; rw [if_neg (by simp [told_trc1, hT])]
    go_enter Try.func21, Try.ntmps21
    go_wp2_with (go_at_call 53; refine HT.mono ?_; rintro e w' ⟨rfl, rfl⟩)
    go_ret
    exact ⟨congrArg (fun z => Ending.returned (.int .i64 z)) HR.out, Below.refl _ _⟩
  | true =>
    have hT2 : toldB t 1 = true := by rw [told_trc1]; exact hT
    by_cases hi : 0 ≤ i ∧ i < (t.length : Int)
    · obtain ⟨n, rfl⟩ : ∃ n : Nat, i = (n : Int) := ⟨i.toNat, by omega⟩
      have hI : inM (n : Int) 0 ((t.length : Int) - 1) = true := decide_eq_true (by omega)
      have e : disA t (n : Int) = (dis t n : Int) := by unfold disA; rw [if_pos ⟨hT2, hI⟩, Int.toNat_natCast]
      rw [e]
      exact implDisIn v t n w h (toldB_parts hT2).1 hT (by omega)
    · rw [hT] at HT
      obtain ⟨a, cap, rfl, _⟩ := h.one
      have HR : Hid (-1 = disA t i) := by
        show _ = _
        unfold disA
        rw [if_neg (fun hh => by have := of_decide_eq_true hh.2; omega)]
      by_cases h0 : i < 0
      · go_enter Try.func21, Try.ntmps21
        go_wp2_with (go_at_call 53; refine HT.mono ?_; rintro e w' ⟨rfl, rfl⟩)
        go_ret
        exact ⟨congrArg (fun z => Ending.returned (.int .i64 z)) HR.out, Below.refl _ _⟩
      · have h5 : (t.length : Int) ≤ i := by omega
        go_enter Try.func21, Try.ntmps21
        go_wp2_with (go_at_call 53; refine HT.mono ?_; rintro e w' ⟨rfl, rfl⟩)
        go_ret
        exact ⟨congrArg (fun z => Ending.returned (.int .i64 z)) HR.out, Below.refl _ _⟩
end Go.Proofs.Ytnnmbgenepfacaa
