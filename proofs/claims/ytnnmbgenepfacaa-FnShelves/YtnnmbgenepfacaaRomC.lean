/-
  The specification's Distance.
-/
import Derived.Test.YtnnmbgenepfacaaRomB
import Derived.Deep.DeepCutAuto
import Derived.Lib.QuietBelow
namespace Go.Proofs.Ytnnmbgenepfacaa
open Go.RowKit Go.Sort Rom
set_option linter.unusedVariables false
set_option linter.unusedSimpArgs false

def disA (t : List Int) (at' : Int) : Int := if toldB t 1 = true ∧ inM at' 0 ((t.length : Int) - 1) = true then (dis t at'.toNat : Int) else -1
theorem rev_next {t : List Int} {m : Nat} (h : m < t.length) : (t.take (m + 1)).reverse = t[m] :: (t.take m).reverse := by
  rw [List.take_succ_eq_append_getElem h, List.reverse_append]
  rfl
theorem disF_next (x y : Int) (seen ys : List Int) : disF x seen (y :: ys) = if y = x then (if y ∈ seen then seen else seen ++ [y]).length else disF x (if y ∈ seen then seen else seen ++ [y]) ys := rfl
set_option maxRecDepth 100000 in
set_option maxHeartbeats 4000000 in
theorem specDisIn (v : Value) (t : List Int) (n : Nat) (w : World) (h : Sls numE w v t) (hl : t.length ≤ 60) (hT : toldB t 1 = true) (hn : n < t.length) :
    Calls Try.prog 22 #[v, .int .i64 (n : Int)] w fun e w' => e = .returned (.int .i64 (dis t n : Int)) ∧ Below w.heap.size w w' := by
  have HT := specTold _ t 1 w h
  rw [hT] at HT
  obtain ⟨a, cap, rfl, h1, h2, h3⟩ := h.one
  obtain ⟨g, q, rfl, hg, hc⟩ := h3 (by omega)
  have hin : inM (n : Int) 0 ((t.length : Int) - 1) = true := decide_eq_true (by omega)
  have HX : Hid (∀ (k : Nat) (hk : k < t.length) (W : World), Below w.heap.size w W → W.cell? ⟨g, q + k, none⟩ = some (.int .i64 t[k])) := fun k hk W hW => (hW.cell (p := ⟨g, q + k, none⟩) hg).trans (hc k hk)
  have HD : Hid (dis t n = disF t[n] [] (t.take n).reverse) := by
    show _ = _
    unfold dis
    have e : t.getD n 0 = t[n] := by simp [hn]
    rw [e]
  have HN : Hid (∀ W, Below w.heap.size w W → W.cell? ⟨g, q + n, none⟩ = some (.int .i64 t[n])) := HX.out n hn
  generalize t[n] = x at HD HN
  generalize dis t n = D at HD ⊢
  clear h h2 h3 hc hT
  have hni : (n : Int) < (t.length : Int) := by omega
  go_enter Try.func22, Try.ntmps22
  go_wp2_with (first | (go_at_call 57; refine HT.mono ?_; rintro e w' ⟨rfl, rfl⟩) | (go_at_call 60; refine (inRm _ _ _ _).mono ?_; rintro e w' ⟨rfl, rfl⟩; rw [hin]))
  clear HT hin
  go_loopw [5, 6] (fun s i wr => ∃ (k : Nat) (sa : Option Addr) (sc : Nat) (seen : List Int), k ≤ n ∧ i = .int .i64 ((k : Int) - 1) ∧ s = .slice sa seen.length sc ∧ Hid (seen.length + k ≤ n) ∧ Hid (D = disF x seen (t.take k).reverse) ∧ Hid (OwnsN wr w.heap.size (.slice sa seen.length sc) seen) ∧ Hid (Below w.heap.size w wr)) (fun _ i _ => (intOf i + 1).toNat)
  case atStart => exact ⟨n, _, _, [], Nat.le_refl _, rfl, rfl, (show ([] : List Int).length + n ≤ n from by simp), HD, (show Hid _ from OwnsE.born w), (show Hid _ from (Below.refl _ w).alloc (Nat.le_refl _) _)⟩
  case round =>
    clear HD
    obtain ⟨k, sa, sc, seen, hk, rfl, rfl, hsl, hD, ho, hb⟩ := hrel
    rcases k with _ | m
    · have HE : Hid (((0 : Nat) : Int) = (D : Int)) := by
        show _ = _
        rw [hD.out]
        rfl
      go_wp2
      go_ret
      exact ⟨congrArg (fun z => Ending.returned (.int .i64 z)) HE.out, hb.out⟩
    · have hml : m < t.length := by omega
      obtain ⟨wo, rfl⟩ : ∃ z, z = wr := ⟨wr, rfl⟩
      have HY : Hid (∀ W, Below w.heap.size w W → W.cell? ⟨g, q + m, none⟩ = some (.int .i64 t[m])) := HX.out m hml
      have hD2 : Hid (D = disF x seen (t[m] :: (t.take m).reverse)) := by
        show _ = _
        rw [← rev_next hml]
        exact hD.out
      generalize t[m] = y at HY hD2
      have ei : ((m + 1 : Nat) : Int) - 1 = (m : Int) := by omega
      have hmi : (m : Int) < (t.length : Int) := by omega
      have hbz := hb.out.size
      have hsl2 : seen.length ≤ 60 := by have := hsl.out; omega
      rw [ei]
      clear ei hD
      go_wp2_with fail
      go_loopw [7, 8] (fun f j wr => ∃ jj : Nat, jj ≤ seen.length ∧ j = .int .i64 jj ∧ f = .bool (decide (y ∈ seen.take jj)) ∧ Hid (Below wo.heap.size wo wr)) (fun _ j _ => seen.length - (intOf j).toNat)
      case atStart => exact ⟨0, Nat.zero_le _, rfl, by simp, (show Hid _ from Below.refl _ _)⟩
      case round =>
        obtain ⟨j, hj, rfl, rfl, hb2⟩ := hrel
        obtain ⟨wi, rfl⟩ : ∃ z, z = wr := ⟨wr, rfl⟩
        have B2 : Below w.heap.size w wi := hb.out.trans (hb2.out.mono hbz)
        have c1 := HY.out _ B2
        by_cases hlj : j < seen.length
        · obtain ⟨sg, rfl⟩ := ownsN_some ho.out (by omega)
          have d0 := ownsN_at (ho.out.kept hb2.out) j hlj
          have HME : Hid (decide (y ∈ seen.take (j + 1)) = (decide (y ∈ seen.take j) || decide (seen[j] = y))) := mem_next hlj
          generalize seen[j] = z at d0 HME
          generalize decide (y ∈ seen.take j) = f1 at HME ⊢
          have hji : (j : Int) < (seen.length : Int) := by omega
          cases f1 with
          | true =>
            have Hf : Hid (decide (y ∈ seen.take (j + 1)) = true) := by show _ = _; rw [HME.out]; rfl
            go_wp2_with fail
            go_quiet (fail)
            have hb3 : Hid (Below wo.heap.size wo (wi.drewN nq)) := (show Hid _ from ⟨hb2.out.os, hb2.out.tape, hb2.out.output, hb2.out.size, hb2.out.block⟩)
            generalize wi.drewN nq = w9 at hb3 ⊢
            go_wp2_with fail
            go_roundw
            case rel => exact ⟨j + 1, by omega, by go_num, by rw [Hf.out], hb3⟩
            case measure => first | (simp [intOf]; done) | (simp [intOf]; omega)
          | false =>
            have Hf : Hid (decide (y ∈ seen.take (j + 1)) = (z == y)) := by
              show _ = _
              rw [HME.out]
              by_cases e : z = y <;> simp [e]
            go_wp2_with fail
            go_quiet (fail)
            have hb3 : Hid (Below wo.heap.size wo (wi.drewN nq)) := (show Hid _ from ⟨hb2.out.os, hb2.out.tape, hb2.out.output, hb2.out.size, hb2.out.block⟩)
            generalize wi.drewN nq = w9 at hb3 ⊢
            go_wp2_with fail
            go_roundw
            case rel => exact ⟨j + 1, by omega, by go_num, by rw [Hf.out], hb3⟩
            case measure => first | (simp [intOf]; done) | (simp [intOf]; omega)
        · obtain rfl : j = seen.length := by omega
          rw [List.take_of_length_le (Nat.le_refl _)]
          have cx := HN.out _ B2
          have HOW : Hid (OwnsN wi w.heap.size (.slice sa seen.length sc) seen) := ho.out.kept hb2.out
          have HB9 : Hid (Below w.heap.size w wi) := B2
          clear hb2 ho hb B2
          by_cases hin : y ∈ seen
          · rw [decide_eq_true hin]
            by_cases hyx : y = x
            · have e1 : (y == x) = true := by simpa using hyx
              have HE : Hid (((seen).length : Int) = (D : Int)) := by show _ = _; rw [hD2.out, disF_next, if_pos hyx, if_pos hin]
              clear hD2 hyx
              go_wp2_with fail
              go_quiet (fail)
              have hbz9 : Hid (Below w.heap.size w (wi.drewN nq)) := (show Hid _ from ⟨HB9.out.os, HB9.out.tape, HB9.out.output, HB9.out.size, HB9.out.block⟩)
              go_wp2
              go_ret
              exact ⟨congrArg (fun z => Ending.returned (.int .i64 z)) ((show _ = _ from by simp).trans HE.out), hbz9.out⟩
            · have e1 : (y == x) = false := by simpa using hyx
              have HE : Hid (D = disF x (seen) (t.take m).reverse) := by show _ = _; rw [hD2.out, disF_next, if_neg hyx, if_pos hin]
              clear hD2 hyx
              go_wp2_with fail
              go_quiet (fail)
              have hbz9 : Hid (Below w.heap.size w (wi.drewN nq)) := (show Hid _ from ⟨HB9.out.os, HB9.out.tape, HB9.out.output, HB9.out.size, HB9.out.block⟩)
              have hob9 : Hid (OwnsN (wi.drewN nq) w.heap.size (.slice sa seen.length sc) seen) := (show Hid _ from HOW.out)
              generalize wi.drewN nq = w9 at hbz9 hob9 ⊢
              go_wp2_with fail
              go_roundw
              case rel => exact ⟨m, sa, sc, seen, by omega, by go_num, by simp, (show (seen).length + m ≤ n from by have := hsl.out; simp; omega), HE, hob9, hbz9⟩
              case measure => first | (simp [intOf]; done) | (simp [intOf]; omega)
          · rw [decide_eq_false hin]
            go_upto_region 14 with (at_builtin; refine wpList_pushN _ rfl (.tmp 47) (.tmp 52) rfl w.heap.size _ _ y rfl HOW.out rfl (by omega) HB9.out.size ?_; intro v4 w4 ho4 hg4; obtain ⟨a4, c4, hv4, _, _⟩ := ho4.form; subst hv4)
            have HB4 : Hid (Below w.heap.size w w4) := (show Hid _ from belowE HB9.out hg4 HB9.out.size (OwnsE.from HOW.out))
            have c1 := HY.out _ HB4.out
            have cx := HN.out _ HB4.out
            have HOW : Hid (OwnsN w4 w.heap.size (.slice a4 (seen ++ [y]).length c4) (seen ++ [y])) := ho4
            clear ho4 hg4 HB9
            by_cases hyx : y = x
            · have e1 : (y == x) = true := by simpa using hyx
              have HE : Hid (((seen ++ [y]).length : Int) = (D : Int)) := by show _ = _; rw [hD2.out, disF_next, if_pos hyx, if_neg hin]
              clear hD2 hyx
              go_wp2_with fail
              go_quiet (fail)
              have hbz9 : Hid (Below w.heap.size w (w4.drewN nq)) := (show Hid _ from ⟨HB4.out.os, HB4.out.tape, HB4.out.output, HB4.out.size, HB4.out.block⟩)
              go_wp2
              go_ret
              exact ⟨congrArg (fun z => Ending.returned (.int .i64 z)) ((show _ = _ from by simp).trans HE.out), hbz9.out⟩
            · have e1 : (y == x) = false := by simpa using hyx
              have HE : Hid (D = disF x (seen ++ [y]) (t.take m).reverse) := by show _ = _; rw [hD2.out, disF_next, if_neg hyx, if_neg hin]
              clear hD2 hyx
              go_wp2_with fail
              go_quiet (fail)
              have hbz9 : Hid (Below w.heap.size w (w4.drewN nq)) := (show Hid _ from ⟨HB4.out.os, HB4.out.tape, HB4.out.output, HB4.out.size, HB4.out.block⟩)
              have hob9 : Hid (OwnsN (w4.drewN nq) w.heap.size (.slice a4 (seen ++ [y]).length c4) (seen ++ [y])) := (show Hid _ from HOW.out)
              generalize w4.drewN nq = w9 at hbz9 hob9 ⊢
              go_wp2_with fail
              go_roundw
              case rel => exact ⟨m, a4, c4, seen ++ [y], by omega, by go_num, by simp, (show (seen ++ [y]).length + m ≤ n from by have := hsl.out; simp; omega), HE, hob9, hbz9⟩
              case measure => first | (simp [intOf]; done) | (simp [intOf]; omega)
end Go.Proofs.Ytnnmbgenepfacaa
