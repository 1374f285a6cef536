/-
  The specification's shelf of what is recent.
-/
import Derived.Test.YtnnmbgenepfacaaRomA
namespace Go.Proofs.Ytnnmbgenepfacaa
open Go.RowKit Go.Sort Rom
set_option linter.unusedVariables false
set_option linter.unusedSimpArgs false

theorem shf_length (r : Nat) (p : List Int) : (shf r p).length ≤ r := by rw [shf_is, List.length_take]; exact Nat.min_le_left _ _
theorem filt_next {S : List Int} {j : Nat} {x : Int} (h : j < S.length) : (S.take (j + 1)).filter (fun y => decide (y ≠ x)) = (S.take j).filter (fun y => decide (y ≠ x)) ++ (if S[j] = x then [] else [S[j]]) := by
  rw [List.take_succ_eq_append_getElem h, List.filter_append]
  congr 1
  by_cases e : S[j] = x
  · rw [if_pos e, List.filter_cons_of_neg (by simpa using e)]; rfl
  · rw [if_neg e, List.filter_cons_of_pos (by simpa using e)]; rfl
theorem mem_next {S : List Int} {j : Nat} {x : Int} (h : j < S.length) : decide (x ∈ S.take (j + 1)) = (decide (x ∈ S.take j) || decide (S[j] = x)) := by
  rw [List.take_succ_eq_append_getElem h]
  by_cases h1 : x ∈ S.take j
  · rw [decide_eq_true h1, decide_eq_true (List.mem_append.2 (.inl h1))]; rfl
  · by_cases h2 : S[j] = x
    · rw [decide_eq_false h1, decide_eq_true h2, decide_eq_true (List.mem_append.2 (.inr (List.mem_singleton.2 h2.symm)))]; rfl
    · have h3 : ¬ x ∈ S.take j ++ [S[j]] := fun hm => by
        rcases List.mem_append.1 hm with e | e
        · exact h1 e
        · exact h2 (List.mem_singleton.1 e).symm
      rw [decide_eq_false h1, decide_eq_false h2, decide_eq_false h3]; rfl
theorem shf_next {r : Nat} {t : List Int} {k : Nat} (h : k < t.length) : shf r (t.take (k + 1)) = srS r (shf r (t.take k)) t[k] := by
  rw [List.take_succ_eq_append_getElem h, shf_snoc]
theorem mis_next {r : Nat} {t : List Int} {k : Nat} (h : k < t.length) : mis r t (k + 1) = mis r t k + (if t[k] ∈ shf r (t.take k) then 0 else 1) := by
  show mis r t k + (if t.getD k 0 ∈ shf r (t.take k) then 0 else 1) = _
  have e : t.getD k 0 = t[k] := by simp [h]
  rw [e]
theorem mis_le (r : Nat) (t : List Int) : ∀ k, mis r t k ≤ k
  | 0 => Nat.le_refl _
  | k + 1 => by
    have := mis_le r t k
    show mis r t k + _ ≤ k + 1
    split <;> omega
theorem ownsN_some {w : World} {B n sc : Nat} {sa : Option Addr} {S : List Int} (h : OwnsN w B (.slice sa n sc) S) (h0 : 0 < S.length) : ∃ sg, sa = some ⟨sg, 0, none⟩ := by
  rcases h.2 with ⟨_, e⟩ | ⟨g, cap, cur, e, _⟩
  · omega
  · injection e with e1 _ _
    exact ⟨g, e1⟩
set_option maxRecDepth 100000 in
set_option maxHeartbeats 4000000 in
theorem specShelf (v : Value) (t : List Int) (r : Nat) (w : World) (h : Sls numE w v t) (hl : t.length ≤ 60) (hr : 1 ≤ r ∧ r ≤ 10) :
    Calls Try.prog 58 #[v, .int .i64 (r : Int)] w fun e w' => ∃ u, e = .returned (.tuple #[u, .int .i64 (mis r t t.length : Int)]) ∧ OwnsN w' w.heap.size u (shf r t) ∧ Below w.heap.size w w' := by
  obtain ⟨a, cap, rfl, h1, h2, h3⟩ := h.one
  have H2 : Hid (cap ≤ maxLen) := h2
  clear h h2
  go_enter Try.func58, Try.ntmps58
  go_wp2
  go_loopw [6, 7, 8] (fun s m i wr => ∃ (k : Nat) (sa : Option Addr) (sc : Nat), k ≤ t.length ∧ i = .int .i64 k ∧ m = .int .i64 (mis r t k : Int) ∧ s = .slice sa (shf r (t.take k)).length sc ∧ Hid (OwnsN wr w.heap.size (.slice sa (shf r (t.take k)).length sc) (shf r (t.take k))) ∧ Hid (Below w.heap.size w wr)) (fun _ _ i _ => t.length - (intOf i).toNat)
  case atStart => exact ⟨0, _, _, Nat.zero_le _, rfl, rfl, rfl, (show Hid _ from OwnsE.born w), (show Hid _ from (Below.refl _ w).alloc (Nat.le_refl _) _)⟩
  case round =>
    obtain ⟨k, sa, sc, hk, rfl, rfl, rfl, ho, hb⟩ := hrel
    by_cases hlt : k < t.length
    · obtain ⟨g, q, rfl, hg, hc⟩ := h3 (by omega)
      obtain ⟨wo, rfl⟩ : ∃ z, z = wr := ⟨wr, rfl⟩
      have HX : Hid (∀ W, Below w.heap.size w W → W.cell? ⟨g, q + k, none⟩ = some (.int .i64 t[k])) := fun W hW => (hW.cell (p := ⟨g, q + k, none⟩) hg).trans (hc k hlt)
      have c0 := HX.out _ hb.out
      have HSN : Hid (shf r (t.take (k + 1)) = srS r (shf r (t.take k)) t[k]) := shf_next hlt
      have HMN : Hid (mis r t (k + 1) = mis r t k + (if t[k] ∈ shf r (t.take k) then 0 else 1)) := mis_next hlt
      have hml := mis_le r t k
      have hsl := shf_length r (t.take k)
      generalize t[k] = x at HX c0 HSN HMN
      generalize shf r (t.take k) = S at ho HSN HMN hsl
      generalize mis r t k = m0 at HMN hml
      have hki : (k : Int) < (t.length : Int) := by omega
      have hbz := hb.out.size
      clear hc h3
      go_wp2_with fail
      go_loopw [9, 10, 11] (fun n f j wr => ∃ (jj : Nat) (na : Option Addr) (nc : Nat), jj ≤ S.length ∧ j = .int .i64 jj ∧ f = .bool (decide (x ∈ S.take jj)) ∧ n = .slice na (x :: (S.take jj).filter (fun y => decide (y ≠ x))).length nc ∧ Hid (OwnsN wr wo.heap.size (.slice na (x :: (S.take jj).filter (fun y => decide (y ≠ x))).length nc) (x :: (S.take jj).filter (fun y => decide (y ≠ x)))) ∧ Hid (Below wo.heap.size wo wr)) (fun _ _ j _ => S.length - (intOf j).toNat)
      case atStart => exact ⟨0, _, _, Nat.zero_le _, rfl, by simp, rfl, (show Hid _ from ownsN_lit wo x), (show Hid _ from (Below.refl _ wo).alloc (Nat.le_refl _) _)⟩
      case round =>
        obtain ⟨j, na, nc, hj, rfl, rfl, rfl, hn, hb2⟩ := hrel
        obtain ⟨wi, rfl⟩ : ∃ z, z = wr := ⟨wr, rfl⟩
        have B2 : Below w.heap.size w wi := hb.out.trans (hb2.out.mono hbz)
        by_cases hlj : j < S.length
        · obtain ⟨sg, rfl⟩ := ownsN_some ho.out (by omega)
          have d0 := ownsN_at (ho.out.kept hb2.out) j hlj
          have c1 := HX.out _ B2
          have HFN : Hid ((S.take (j + 1)).filter (fun y => decide (y ≠ x)) = (S.take j).filter (fun y => decide (y ≠ x)) ++ (if S[j] = x then [] else [S[j]])) := filt_next hlj
          have HME : Hid (decide (x ∈ S.take (j + 1)) = (decide (x ∈ S.take j) || decide (S[j] = x))) := mem_next hlj
          have hfl : ((S.take j).filter (fun y => decide (y ≠ x))).length ≤ j := Nat.le_trans (List.length_filter_le _ _) (List.length_take_le _ _)
          generalize S[j] = y at d0 HFN HME
          generalize (S.take j).filter (fun y => decide (y ≠ x)) = P at hn HFN hfl
          generalize decide (x ∈ S.take j) = f1 at HME ⊢
          have hji : (j : Int) < (S.length : Int) := by omega
          by_cases hyx : y = x
          · have e1 : (y == x) = true := by simpa using hyx
            have HP : Hid ((S.take (j + 1)).filter (fun y => decide (y ≠ x)) = P) := by show _ = _; rw [HFN.out, if_pos hyx, List.append_nil]
            have Hf : Hid (decide (x ∈ S.take (j + 1)) = true) := by show _ = _; rw [HME.out, decide_eq_true hyx]; simp
            go_wp2_with fail
            go_quiet (fail)
            have hb3 : Hid (Below wo.heap.size wo (wi.drewN nq)) := (show Hid _ from ⟨hb2.out.os, hb2.out.tape, hb2.out.output, hb2.out.size, hb2.out.block⟩)
            have hn3 : Hid (OwnsN (wi.drewN nq) wo.heap.size (.slice na (x :: P).length nc) (x :: P)) := hn
            generalize wi.drewN nq = w1 at hb3 hn3 ⊢
            go_wp2_with fail
            go_roundw
            case rel => exact ⟨j + 1, na, nc, by omega, by go_num, by rw [Hf.out], by rw [HP.out], by rw [HP.out]; exact hn3, hb3⟩
            case measure => simp [intOf]; omega
          · have e1 : (y == x) = false := by simpa using hyx
            have HP : Hid ((S.take (j + 1)).filter (fun y => decide (y ≠ x)) = P ++ [y]) := by show _ = _; rw [HFN.out, if_neg hyx]
            have Hf : Hid (decide (x ∈ S.take (j + 1)) = f1) := by show _ = _; rw [HME.out, decide_eq_false hyx]; simp
            go_wp2_with fail
            go_quiet (fail)
            have hb3 : Hid (Below wo.heap.size wo (wi.drewN nq)) := (show Hid _ from ⟨hb2.out.os, hb2.out.tape, hb2.out.output, hb2.out.size, hb2.out.block⟩)
            have hn3 : Hid (OwnsN (wi.drewN nq) wo.heap.size (.slice na (x :: P).length nc) (x :: P)) := hn
            have d3 : (wi.drewN nq).cell? ⟨sg, j, none⟩ = some (.int .i64 y) := d0
            clear d0 c1 hn hb2 B2
            generalize wi.drewN nq = w1 at hb3 hn3 d3 ⊢
            go_wp2_with (at_builtin; refine wpList_pushN _ rfl (.tmp 39) (.tmp 44) rfl wo.heap.size _ _ y rfl hn3.out rfl (by simp; omega) hb3.out.size ?_; intro v4 w4 ho4 hg4; obtain ⟨a4, c4, hv4, _, _⟩ := ho4.form; subst hv4)
            go_roundw
            case rel => exact ⟨j + 1, a4, c4, by omega, by go_num, by rw [Hf.out], by rw [HP.out]; simp, by rw [HP.out]; exact ho4, (show Hid _ from belowE hb3.out hg4 hb3.out.size (OwnsE.from hn3.out))⟩
            case measure => simp [intOf]; omega
        · obtain rfl : j = S.length := by omega
          rw [List.take_of_length_le (Nat.le_refl _)] at hn ⊢
          have hn2 : Hid (OwnsN wi wo.heap.size (.slice na (srI S x).length nc) (srI S x)) := hn
          have hsi : (x :: S.filter (fun y => decide (y ≠ x))).length ≤ S.length + 1 := by
            rw [List.length_cons]
            have := List.length_filter_le (fun y => decide (y ≠ x)) S
            omega
          obtain ⟨ng, rfl⟩ := ownsN_some hn2.out (by unfold srI; simp)
          have hie : srI S x = x :: S.filter (fun y => decide (y ≠ x)) := rfl
          rw [← hie] at hsi ⊢
          clear hie
          have HB3 : Hid (Below w.heap.size w wi) := B2
          clear hn hb2 ho c0 B2 HX
          by_cases hin : x ∈ S
          · have HM2 : Hid (mis r t (k + 1) = m0) := by show _ = _; rw [HMN.out, if_pos hin]; rfl
            rw [decide_eq_true hin]
            clear HMN hin
            by_cases hgt : r < (srI S x).length
            · have hd : decide (r < (srI S x).length) = true := decide_eq_true hgt
              have hcap : r ≤ nc := by
                obtain ⟨_, _, e, h5, _⟩ := hn2.out.form
                injection e with _ _ e3
                omega
              have hci : (r : Int) ≤ (nc : Int) := by omega
              have HL : Hid (OwnsN wi w.heap.size (.slice (some ⟨ng, 0, none⟩) r nc) (srS r S x)) := (hn2.out.less rfl r (by omega)).low hbz
              have hrl : Hid ((srS r S x).length = r) := by show _ = _; unfold srS; rw [List.length_take]; omega
              clear hn2
              go_wp2
              go_roundw
              case rel => exact ⟨k + 1, some ⟨ng, 0, none⟩, nc, by omega, by go_num, by rw [HM2.out], by rw [HSN.out, hrl.out], by rw [HSN.out, hrl.out]; exact HL, HB3⟩
              case measure => simp [intOf]; omega
            · have hd : decide (r < (srI S x).length) = false := decide_eq_false hgt
              have hge : (srI S x).length ≤ r := by omega
              have HI : Hid (srS r S x = srI S x) := by show _ = _; unfold srS; exact List.take_of_length_le (by omega)
              have HL : Hid (OwnsN wi w.heap.size (.slice (some ⟨ng, 0, none⟩) (srI S x).length nc) (srI S x)) := hn2.out.low hbz
              clear hn2
              go_wp2
              go_roundw
              case rel => exact ⟨k + 1, some ⟨ng, 0, none⟩, nc, by omega, by go_num, by rw [HM2.out], by rw [HSN.out, HI.out], by rw [HSN.out, HI.out]; exact HL, HB3⟩
              case measure => simp [intOf]; omega
          · have HM2 : Hid (mis r t (k + 1) = m0 + 1) := by show _ = _; rw [HMN.out, if_neg hin]
            rw [decide_eq_false hin]
            clear HMN hin
            by_cases hgt : r < (srI S x).length
            · have hd : decide (r < (srI S x).length) = true := decide_eq_true hgt
              have hcap : r ≤ nc := by
                obtain ⟨_, _, e, h5, _⟩ := hn2.out.form
                injection e with _ _ e3
                omega
              have hci : (r : Int) ≤ (nc : Int) := by omega
              have HL : Hid (OwnsN wi w.heap.size (.slice (some ⟨ng, 0, none⟩) r nc) (srS r S x)) := (hn2.out.less rfl r (by omega)).low hbz
              have hrl : Hid ((srS r S x).length = r) := by show _ = _; unfold srS; rw [List.length_take]; omega
              clear hn2
              go_wp2
              go_roundw
              case rel => exact ⟨k + 1, some ⟨ng, 0, none⟩, nc, by omega, by go_num, by rw [HM2.out]; go_num, by rw [HSN.out, hrl.out], by rw [HSN.out, hrl.out]; exact HL, HB3⟩
              case measure => simp [intOf]; omega
            · have hd : decide (r < (srI S x).length) = false := decide_eq_false hgt
              have hge : (srI S x).length ≤ r := by omega
              have HI : Hid (srS r S x = srI S x) := by show _ = _; unfold srS; exact List.take_of_length_le (by omega)
              have HL : Hid (OwnsN wi w.heap.size (.slice (some ⟨ng, 0, none⟩) (srI S x).length nc) (srI S x)) := hn2.out.low hbz
              clear hn2
              go_wp2
              go_roundw
              case rel => exact ⟨k + 1, some ⟨ng, 0, none⟩, nc, by omega, by go_num, by rw [HM2.out]; go_num, by rw [HSN.out, HI.out], by rw [HSN.out, HI.out]; exact HL, HB3⟩
              case measure => simp [intOf]; omega
    · obtain rfl : k = t.length := by omega
      rw [List.take_of_length_le (Nat.le_refl _)] at ho ⊢
      go_wp2
      go_ret2
      exact ⟨_, rfl, ho.out, hb.out⟩
/-- What is recent. -/
def recA (t : List Int) (r : Int) : List Int := if toldB t r = true then shf r.toNat t else []
def misA (t : List Int) (r : Int) : Int := if toldB t r = true then (mis r.toNat t t.length : Int) else -1
theorem specRec (v : Value) (t : List Int) (r : Int) (w : World) (h : Sls numE w v t) :
    Calls Try.prog 19 #[v, .int .i64 r] w fun e w' => ∃ u, e = .returned u ∧ OwnsN w' w.heap.size u (recA t r) ∧ Below w.heap.size w w' := by
  obtain ⟨a, cap, rfl, _⟩ := h.one
  have HT := specTold _ t r w h
  cases hb : toldB t r with
  | false =>
    have HR : Hid (recA t r = []) := by show _ = _; unfold recA; rw [if_neg (by simp [hb])]
    rw [hb] at HT
    go_enter Try.func19, Try.ntmps19
    go_wp2_with (go_at_call 57; refine HT.mono ?_; rintro e w' ⟨rfl, rfl⟩)
    go_ret
    exact ⟨_, rfl, by rw [HR.out]; exact OwnsE.born w, (Below.refl _ w).alloc (Nat.le_refl _) _⟩
  | true =>
    have HR : Hid (recA t r = shf r.toNat t) := by show _ = _; unfold recA; rw [if_pos hb]
    obtain ⟨h1, h2, _⟩ := toldB_parts hb
    obtain ⟨n, rfl⟩ : ∃ n : Nat, r = (n : Int) := ⟨r.toNat, by omega⟩
    rw [hb] at HT
    have HS := specShelf _ t n w h h1 (by omega)
    rw [Int.toNat_natCast] at HR
    go_enter Try.func19, Try.ntmps19
    go_wp2_with (first | (go_at_call 57; refine HT.mono ?_; rintro e w' ⟨rfl, rfl⟩) | (go_at_call 58; refine HS.mono ?_; rintro e w1 ⟨u, rfl, ho, hb1⟩))
    go_ret
    exact ⟨_, rfl, by rw [HR.out]; exact ho, hb1⟩
theorem specMis (v : Value) (t : List Int) (r : Int) (w : World) (h : Sls numE w v t) :
    Calls Try.prog 20 #[v, .int .i64 r] w fun e w' => e = .returned (.int .i64 (misA t r)) ∧ Below w.heap.size w w' := by
  obtain ⟨a, cap, rfl, _⟩ := h.one
  have HT := specTold _ t r w h
  cases hb : toldB t r with
  | false =>
    have HR : Hid (-1 = misA t r) := by show _ = _; unfold misA; rw [if_neg (by simp [hb])]
    rw [hb] at HT
    go_enter Try.func20, Try.ntmps20
    go_wp2_with (go_at_call 57; refine HT.mono ?_; rintro e w' ⟨rfl, rfl⟩)
    go_ret
    exact ⟨congrArg (fun z => Ending.returned (.int .i64 z)) HR.out, Below.refl _ _⟩
  | true =>
    have HR : Hid ((mis r.toNat t t.length : Int) = misA t r) := by show _ = _; unfold misA; rw [if_pos hb]
    obtain ⟨h1, h2, _⟩ := toldB_parts hb
    obtain ⟨n, rfl⟩ : ∃ n : Nat, r = (n : Int) := ⟨r.toNat, by omega⟩
    rw [hb] at HT
    have HS := specShelf _ t n w h h1 (by omega)
    rw [Int.toNat_natCast] at HR
    go_enter Try.func20, Try.ntmps20
    go_wp2_with (first | (go_at_call 57; refine HT.mono ?_; rintro e w' ⟨rfl, rfl⟩) | (go_at_call 58; refine HS.mono ?_; rintro e w1 ⟨u, rfl, ho, hb1⟩))
    go_ret
    exact ⟨congrArg (fun z => Ending.returned (.int .i64 z)) HR.out, hb1⟩
end Go.Proofs.Ytnnmbgenepfacaa
