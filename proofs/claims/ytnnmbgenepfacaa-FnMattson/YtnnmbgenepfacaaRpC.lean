/-
  The program's Recent and Misses.
-/
import Derived.Test.YtnnmbgenepfacaaRpB
namespace Go.Proofs.Ytnnmbgenepfacaa
open Go.RowKit Go.Sort Rom
set_option linter.unusedVariables false
set_option linter.unusedSimpArgs false

theorem shf_nodup (r : Nat) (p : List Int) : (shf r p).Nodup := by rw [shf_is]; exact (stk_nodup p).sublist (List.take_sublist _ _)
theorem srI_erase {S : List Int} {x : Int} (hn : S.Nodup) (hx : x ∈ S) : x :: S.eraseIdx (S.idxOf x) = srI S x := by
  unfold srI
  congr 1
  rw [← List.erase_eq_eraseIdx_of_idxOf (i := S.idxOf x) (a := x) rfl, hn.erase_eq_filter]
  congr 1
  funext y
  by_cases h : y = x
  · simp [h]
  · simp [h]
theorem srI_new {S : List Int} {x : Int} (hx : x ∉ S) : x :: S = srI S x := by unfold srI; rw [filter_out hx]
set_option maxRecDepth 100000 in
set_option maxHeartbeats 4000000 in
theorem implTaken (v : Value) (t : List Int) (r : Nat) (w : World) (h : Sls numE w v t) (hl : t.length ≤ 60) (hr : 1 ≤ r ∧ r ≤ 10) :
    Calls Try.prog 55 #[v, .int .i64 (r : Int)] w fun e w' => ∃ u, e = .returned (.tuple #[u, .int .i64 (mis r t t.length : Int)]) ∧ OwnsN w' w.heap.size u (shf r t) ∧ Below w.heap.size w w' := by
  obtain ⟨a, cap, rfl, h1, h2, h3⟩ := h.one
  have H2 : Hid (cap ≤ maxLen) := h2
  clear h h2
  go_enter Try.func55, Try.ntmps55
  go_wp2
  go_loopw [6, 7, 14] (fun s m i wr => ∃ (k : Nat) (sa : Option Addr) (sc : Nat), k ≤ t.length ∧ i = .int .i64 k ∧ m = .int .i64 (mis r t k : Int) ∧ s = .slice sa (shf r (t.take k)).length sc ∧ Hid (OwnsN wr w.heap.size (.slice sa (shf r (t.take k)).length sc) (shf r (t.take k))) ∧ Hid (Below w.heap.size w wr)) (fun _ _ i _ => t.length - (intOf i).toNat)
  case atStart => exact ⟨0, _, _, Nat.zero_le _, rfl, rfl, rfl, (show Hid _ from OwnsE.born w), (show Hid _ from (Below.refl _ w).alloc (Nat.le_refl _) _)⟩
  case round =>
    obtain ⟨k, sa, sc, hk, rfl, rfl, rfl, ho, hb⟩ := hrel
    by_cases hlt : k < t.length
    · obtain ⟨g, q, rfl, hg, hc⟩ := h3 (by omega)
      have c0 : wr.cell? ⟨g, q + k, none⟩ = some (.int .i64 t[k]) := (hb.out.cell (p := ⟨g, q + k, none⟩) hg).trans (hc k hlt)
      have HSN : Hid (shf r (t.take (k + 1)) = srS r (shf r (t.take k)) t[k]) := shf_next hlt
      have HMN : Hid (mis r t (k + 1) = mis r t k + (if t[k] ∈ shf r (t.take k) then 0 else 1)) := mis_next hlt
      have hml := mis_le r t k
      have hsl := shf_length r (t.take k)
      have hnd : Hid (shf r (t.take k)).Nodup := shf_nodup r (t.take k)
      generalize t[k] = x at c0 HSN HMN
      generalize shf r (t.take k) = S at ho HSN HMN hsl hnd
      generalize mis r t k = m0 at HMN hml
      have hki : (k : Int) < (t.length : Int) := by omega
      have hbz := hb.out.size
      have SS : Hid (Sls numE wr (.slice sa S.length sc) S) := ho.out.sls
      clear hc h3 ho
      by_cases hin : x ∈ S
      · have hix := idxN _ S x wr SS.out
        obtain ⟨hie, hil⟩ := idxA_in hin
        rw [hie] at hix
        have hfr := frontN_at x _ S (S.idxOf x) wr SS.out hil (by omega)
        rw [srI_erase hnd.out hin] at hfr
        have HM2 : Hid (mis r t (k + 1) = m0) := by show _ = _; rw [HMN.out, if_pos hin]; rfl
        generalize S.idxOf x = p at hix hfr
        have hsi : (srI S x).length ≤ S.length + 1 := by
          unfold srI
          rw [List.length_cons]
          have := List.length_filter_le (fun y => decide (y ≠ x)) S
          omega
        have hsp : 0 < (srI S x).length := by unfold srI; simp
        clear HMN hin hil hie hnd
        have HS2 : Hid (srS r S x = (srI S x).take r) := rfl
        generalize srI S x = I at hfr hsi hsp HS2
        go_wp2_with (first | (go_at_call 83; refine hix.mono ?_; rintro e w' ⟨rfl, rfl⟩) | (go_at_call 84; refine hfr.mono ?_; rintro e w1 ⟨u, rfl, ho1, hb1⟩; obtain ⟨a4, c4, rfl, hc4, _⟩ := ho1.form; have HO1 : Hid (OwnsN w1 w.heap.size (.slice a4 I.length c4) I) := ho1.low hbz; have HB1 : Hid (Below w.heap.size w w1) := hb.out.trans (hb1.mono hbz); clear ho1 hb1))
        · have hgt : r < I.length := by omega
          have hrl : Hid (((I.take r).length) = r) := by show _ = _; rw [List.length_take]; omega
          obtain ⟨ng, rfl⟩ := ownsN_some HO1.out (by omega)
          have HL : Hid (OwnsN w1 w.heap.size (.slice (some ⟨ng, 0, none⟩) r c4) (I.take r)) := HO1.out.less rfl r (by omega)
          clear HO1
          go_wp2
          go_roundw
          case rel => exact ⟨k + 1, some ⟨ng, 0, none⟩, c4, by omega, by go_num, by rw [HM2.out], by rw [HSN.out, HS2.out, hrl.out], by rw [HSN.out, HS2.out, hrl.out]; exact HL, HB1⟩
          case measure => simp [intOf]; omega
        · have HI : Hid (I.take r = I) := (show _ = _ from List.take_of_length_le (by omega))
          go_wp2
          go_roundw
          case rel => exact ⟨k + 1, a4, c4, by omega, by go_num, by rw [HM2.out], by rw [HSN.out, HS2.out, HI.out], by rw [HSN.out, HS2.out, HI.out]; exact HO1, HB1⟩
          case measure => simp [intOf]; omega
      · have hix := idxN _ S x wr SS.out
        rw [idxA_no hin] at hix
        have hfr := frontN_no x _ S wr SS.out (by omega)
        rw [srI_new hin] at hfr
        have HM2 : Hid (mis r t (k + 1) = m0 + 1) := by show _ = _; rw [HMN.out, if_neg hin]
        have hsi : (srI S x).length ≤ S.length + 1 := by
          unfold srI
          rw [List.length_cons]
          have := List.length_filter_le (fun y => decide (y ≠ x)) S
          omega
        have hsp : 0 < (srI S x).length := by unfold srI; simp
        clear HMN hin hnd
        have HS2 : Hid (srS r S x = (srI S x).take r) := rfl
        generalize srI S x = I at hfr hsi hsp HS2
        go_wp2_with (first | (go_at_call 83; refine hix.mono ?_; rintro e w' ⟨rfl, rfl⟩) | (go_at_call 84; refine hfr.mono ?_; rintro e w1 ⟨u, rfl, ho1, hb1⟩; obtain ⟨a4, c4, rfl, hc4, _⟩ := ho1.form; have HO1 : Hid (OwnsN w1 w.heap.size (.slice a4 I.length c4) I) := ho1.low hbz; have HB1 : Hid (Below w.heap.size w w1) := hb.out.trans (hb1.mono hbz); clear ho1 hb1))
        · have hgt : r < I.length := by omega
          have hrl : Hid (((I.take r).length) = r) := by show _ = _; rw [List.length_take]; omega
          obtain ⟨ng, rfl⟩ := ownsN_some HO1.out (by omega)
          have HL : Hid (OwnsN w1 w.heap.size (.slice (some ⟨ng, 0, none⟩) r c4) (I.take r)) := HO1.out.less rfl r (by omega)
          clear HO1
          go_wp2
          go_roundw
          case rel => exact ⟨k + 1, some ⟨ng, 0, none⟩, c4, by omega, by go_num, by rw [HM2.out]; go_num, by rw [HSN.out, HS2.out, hrl.out], by rw [HSN.out, HS2.out, hrl.out]; exact HL, HB1⟩
          case measure => simp [intOf]; omega
        · have HI : Hid (I.take r = I) := (show _ = _ from List.take_of_length_le (by omega))
          go_wp2
          go_roundw
          case rel => exact ⟨k + 1, a4, c4, by omega, by go_num, by rw [HM2.out]; go_num, by rw [HSN.out, HS2.out, HI.out], by rw [HSN.out, HS2.out, HI.out]; exact HO1, HB1⟩
          case measure => simp [intOf]; omega
    · obtain rfl : k = t.length := by omega
      rw [List.take_of_length_le (Nat.le_refl _)] at ho ⊢
      go_wp2
      go_ret2
      exact ⟨_, rfl, ho.out, hb.out⟩
theorem implRec (v : Value) (t : List Int) (r : Int) (w : World) (h : Sls numE w v t) (hlen : t.length ≤ 1048576) :
    Calls Try.prog 15 #[v, .int .i64 r] w fun e w' => ∃ u, e = .returned u ∧ HasN w' w.heap.size u (recA t r) ∧ Below w.heap.size w w' := by
  have HT := implTrc _ t w h
  have HO := implRom r w
  have h0 := h
  obtain ⟨a, cap, rfl, _⟩ := h.one
  cases hb : toldB t r with
  | false =>
    have HR : Hid (recA t r = []) := by show _ = _; unfold recA; rw [if_neg (by simp [hb])]
    rw [told_trc] at hb
    generalize trcB t = b1 at HT hb
    generalize inM r 1 10 = b2 at HO hb
    cases b1 with
    | false =>
      clear HO hb
      go_enter Try.func15, Try.ntmps15
      go_wp2_with (go_at_call 53; refine HT.mono ?_; rintro e w' ⟨rfl, rfl⟩)
      go_ret
      exact ⟨_, rfl, by rw [HR.out]; exact (OwnsE.born w).has, (Below.refl _ w).alloc (Nat.le_refl _) _⟩
    | true =>
      obtain rfl : b2 = false := by simpa using hb
      go_enter Try.func15, Try.ntmps15
      go_wp2_with (first | (go_at_call 53; refine HT.mono ?_; rintro e w' ⟨rfl, rfl⟩) | (go_at_call 54; refine HO.mono ?_; rintro e w' ⟨rfl, rfl⟩))
      go_ret
      exact ⟨_, rfl, by rw [HR.out]; exact (OwnsE.born w).has, (Below.refl _ w).alloc (Nat.le_refl _) _⟩
  | true =>
    have HR : Hid (recA t r = shf r.toNat t) := by show _ = _; unfold recA; rw [if_pos hb]
    obtain ⟨h1, h2, _⟩ := toldB_parts hb
    rw [told_trc, Bool.and_eq_true] at hb
    rw [hb.1] at HT
    rw [hb.2] at HO
    obtain ⟨n, rfl⟩ : ∃ n : Nat, r = (n : Int) := ⟨r.toNat, by omega⟩
    have HS := implTaken _ t n w h0 h1 (by omega)
    rw [Int.toNat_natCast] at HR
    go_enter Try.func15, Try.ntmps15
    go_wp2_with (first | (go_at_call 53; refine HT.mono ?_; rintro e w' ⟨rfl, rfl⟩) | (go_at_call 54; refine HO.mono ?_; rintro e w' ⟨rfl, rfl⟩) | (go_at_call 55; refine HS.mono ?_; rintro e w1 ⟨u, rfl, ho, hb1⟩))
    go_ret
    exact ⟨_, rfl, by rw [HR.out]; exact ho.has, hb1⟩
theorem implMis (v : Value) (t : List Int) (r : Int) (w : World) (h : Sls numE w v t) (hlen : t.length ≤ 1048576) :
    Calls Try.prog 16 #[v, .int .i64 r] w fun e w' => e = .returned (.int .i64 (misA t r)) ∧ Below w.heap.size w w' := by
  have HT := implTrc _ t w h
  have HO := implRom r w
  have h0 := h
  obtain ⟨a, cap, rfl, _⟩ := h.one
  cases hb : toldB t r with
  | false =>
    have HR : Hid (-1 = misA t r) := by show _ = _; unfold misA; rw [if_neg (by simp [hb])]
    rw [told_trc] at hb
    generalize trcB t = b1 at HT hb
    generalize inM r 1 10 = b2 at HO hb
    cases b1 with
    | false =>
      clear HO hb
      go_enter Try.func16, Try.ntmps16
      go_wp2_with (go_at_call 53; refine HT.mono ?_; rintro e w' ⟨rfl, rfl⟩)
      go_ret
      exact ⟨congrArg (fun z => Ending.returned (.int .i64 z)) HR.out, Below.refl _ _⟩
    | true =>
      obtain rfl : b2 = false := by simpa using hb
      go_enter Try.func16, Try.ntmps16
      go_wp2_with (first | (go_at_call 53; refine HT.mono ?_; rintro e w' ⟨rfl, rfl⟩) | (go_at_call 54; refine HO.mono ?_; rintro e w' ⟨rfl, rfl⟩))
      go_ret
      exact ⟨congrArg (fun z => Ending.returned (.int .i64 z)) HR.out, Below.refl _ _⟩
  | true =>
    have HR : Hid ((mis r.toNat t t.length : Int) = misA t r) := by show _ = _; unfold misA; rw [if_pos hb]
    obtain ⟨h1, h2, _⟩ := toldB_parts hb
    rw [told_trc, Bool.and_eq_true] at hb
    rw [hb.1] at HT
    rw [hb.2] at HO
    obtain ⟨n, rfl⟩ : ∃ n : Nat, r = (n : Int) := ⟨r.toNat, by omega⟩
    have HS := implTaken _ t n w h0 h1 (by omega)
    rw [Int.toNat_natCast] at HR
    go_enter Try.func16, Try.ntmps16
    go_wp2_with (first | (go_at_call 53; refine HT.mono ?_; rintro e w' ⟨rfl, rfl⟩) | (go_at_call 54; refine HO.mono ?_; rintro e w' ⟨rfl, rfl⟩) | (go_at_call 55; refine HS.mono ?_; rintro e w1 ⟨u, rfl, ho, hb1⟩))
    go_ret
    exact ⟨congrArg (fun z => Ending.returned (.int .i64 z)) HR.out, hb1⟩
end Go.Proofs.Ytnnmbgenepfacaa
