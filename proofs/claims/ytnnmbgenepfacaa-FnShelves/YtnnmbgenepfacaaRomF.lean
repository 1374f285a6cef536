/-
  The laws' least: the least misses of any way of dropping.
-/
import Derived.Test.YtnnmbgenepfacaaRomE
import Derived.Deep.RegionLaw
namespace Go.Proofs.Ytnnmbgenepfacaa
open Go.RowKit Go.Sort Rom
set_option linter.unusedVariables false
set_option linter.unusedSimpArgs false
/-- What Best answers. -/
def bestA (t : List Int) (r : Int) : Int := if toldB t r = true then (opt r.toNat t [] : Int) else -1
theorem specBest (v : Value) (t : List Int) (r : Int) (w : World) (h : Sls numE w v t) :
    Calls Try.prog 25 #[v, .int .i64 r] w fun e w' => e = .returned (.int .i64 (bestA t r)) ∧ Below w.heap.size w w' := by
  have HT := specTold _ t r w h
  cases hT : toldB t r with
  | false =>
    obtain ⟨a, cap, rfl, _⟩ := h.one
    have HR : Hid (-1 = bestA t r) := by show _ = _; unfold bestA; rw [if_neg (by simp [hT])]
    rw [hT] at HT
    go_enter Try.func25, Try.ntmps25
    go_wp2_with (go_at_call 57; refine HT.mono ?_; rintro e w' ⟨rfl, rfl⟩)
    go_ret
    exact ⟨congrArg (fun z => Ending.returned (.int .i64 z)) HR.out, Below.refl _ _⟩
  | true =>
    have hp := toldB_parts hT
    obtain ⟨n, rfl⟩ : ∃ n : Nat, r = (n : Int) := ⟨r.toNat, by omega⟩
    have e : bestA t (n : Int) = (opt n t [] : Int) := by unfold bestA; rw [if_pos hT, Int.toNat_natCast]
    rw [e]
    exact specBestIn v t n w h hp.1 (by omega) hT
theorem minOn_is {g : Int → Nat} {S : List Int} {b : Nat} (h1 : ∀ y ∈ S, b ≤ g y) (h2 : ∃ y ∈ S, b = g y) : minOn g S = b := by
  obtain ⟨y, hy, e⟩ := h2
  have hne : S ≠ [] := fun e => by rw [e] at hy; cases hy
  obtain ⟨z, hz, e2⟩ := minOn_ex (g := g) hne
  have := minOn_le (g := g) hy
  have := h1 z hz
  omega
theorem set_perm {S : List Int} {i : Nat} (hi : i < S.length) (x : Int) : (S.set i x).Perm (x :: S.erase S[i]) := by
  have e : S.set i x = S.take i ++ x :: S.drop (i + 1) := List.set_eq_take_append_cons_drop ▸ by rw [if_pos hi]
  rw [e]
  exact List.perm_middle.trans ((drop_perm hi).cons x)
theorem least_room {r k O : Nat} {t S : List Int} (hr : 0 < r) (hk : k < t.length) (h : O = opt r (t.drop k) S) (hx : t[k] ∉ S) (hl : S.length < r) : O = 1 + opt r (t.drop (k + 1)) (S ++ [t[k]]) := by
  rw [h, List.drop_eq_getElem_cons hk, opt_room hx hl]
  rw [opt_perm hr _ _ _ (List.perm_append_comm (l₁ := S) (l₂ := [t[k]]))]
  rfl
theorem least_full {r k O b : Nat} {t S : List Int} (hr : 0 < r) (hk : k < t.length) (h : O = opt r (t.drop k) S) (hx : t[k] ∉ S) (hl : S.length = r)
    (h1 : ∀ i (hi : i < S.length), b ≤ 1 + opt r (t.drop (k + 1)) (S.set i t[k])) (h2 : ∃ i, ∃ hi : i < S.length, b = 1 + opt r (t.drop (k + 1)) (S.set i t[k])) : O = b := by
  rw [h, List.drop_eq_getElem_cons hk, opt_full hx (by omega)]
  refine minOn_is (fun y hy => ?_) ?_
  · obtain ⟨i, hi, rfl⟩ := List.getElem_of_mem hy
    have := h1 i hi
    rw [opt_perm hr _ _ _ (set_perm hi t[k])] at this
    exact this
  · obtain ⟨i, hi, e⟩ := h2
    refine ⟨S[i], List.getElem_mem hi, ?_⟩
    rw [opt_perm hr _ _ _ (set_perm hi t[k])] at e
    exact e
theorem ownsN_form {w : World} {B : Nat} {v : Value} {l : List Int} (h : OwnsN w B v l) (h0 : 1 ≤ l.length) : ∃ g c, v = .slice (some ⟨g, 0, Option.none⟩) l.length c := by
  obtain ⟨a, c, e, _, _, h4⟩ := h.form
  rcases h4 with ⟨rfl, rfl⟩ | ⟨g, rfl⟩
  · subst e
    obtain ⟨sg, hsg⟩ := ownsN_some h (by omega)
    cases hsg
  · exact ⟨g, c, e⟩
theorem slsN_cells {w : World} {g o n cap : Nat} {l : List Int} (h : Sls numE w (.slice (some ⟨g, o, Option.none⟩) n cap) l) : ∀ j u, (cellsE numE l)[j]? = some u → w.cell? ((⟨g, o, Option.none⟩ : Addr).add j) = some u := by
  obtain ⟨a, cap', e, h1, h2, h3⟩ := h
  intro j u hu
  injection e with e1 e2 e3
  by_cases h0 : 0 < l.length
  · obtain ⟨g', o', e4, _, hc⟩ := h3 h0
    rw [← e1] at e4
    injection e4 with e4
    injection e4 with e4 e5
    rw [addr_add, e4, e5]
    exact hc j u hu
  · have : l = [] := List.eq_nil_of_length_eq_zero (by omega)
    subst this
    simp [cellsE] at hu
theorem below_push0 {w W : World} (h : W.heap = w.heap) (h1 : W.os = w.os) (h2 : W.tape = w.tape) (h3 : W.output = w.output) : Below w.heap.size w W := ⟨h1, h2, h3, by rw [h]; exact Nat.le_refl _, fun b hb => by rw [h]⟩
theorem below_push1 {w W : World} {o : Obj} (h : W.heap = w.heap.push o) (h1 : W.os = w.os) (h2 : W.tape = w.tape) (h3 : W.output = w.output) : Below w.heap.size w W := ⟨h1, h2, h3, by rw [h]; simp, fun b hb => by rw [h, Array.getElem?_push, if_neg (by omega)]⟩
theorem below_push2 {w W : World} {o o2 : Obj} (h : W.heap = (w.heap.push o).push o2) (h1 : W.os = w.os) (h2 : W.tape = w.tape) (h3 : W.output = w.output) : Below w.heap.size w W := ⟨h1, h2, h3, by rw [h]; simp; omega, fun b hb => by rw [h, Array.getElem?_push, if_neg (by simp; omega), Array.getElem?_push, if_neg (by omega)]⟩
theorem bornN {W : World} {B b : Nat} (hB : B ≤ b) (h : W.heap[b]? = some (.cells #[] 2)) : OwnsN W B (.slice (some ⟨b, 0, Option.none⟩) 0 0) [] :=
  ⟨rfl, .inr ⟨b, 0, #[], rfl, hB, h, Nat.le_refl _, Nat.zero_le _, rfl, rfl⟩⟩
theorem keepX {W w7 : World} {b b0 : Nat} {o : Obj} (hg : W.grownBy w7 (some b0)) (h : W.heap[b]? = some o) (hne : b ≠ b0) : w7.heap[b]? = some o := by
  rw [hg.block b (Array.getElem?_eq_some_iff.1 h).1 (fun e => hne (Option.some.inj e))]
  exact h
theorem cellX {W : World} {b : Nat} {x : Int} (h : W.heap[b]? = some (.cells #[.int .i64 x] 2)) : ∀ j u, (cellsE numE [x])[j]? = some u → W.cell? ((⟨b, 0, Option.none⟩ : Addr).add j) = some u := by
  intro j u hu
  rw [cellsE_single] at hu
  have hu : [Value.int .i64 x][j]? = some u := hu
  rw [addr_add, Nat.zero_add]
  simp only [World.cell?]
  rw [h]
  simpa using hu
theorem push_last {W : World} {h0 : Array Obj} {o : Obj} {n : Nat} (h : W.heap = h0.push o) (hn : n = h0.size) : W.heap[n]? = some o := by rw [h, hn]; simp
theorem push_prev {W : World} {h0 : Array Obj} {o o2 : Obj} {n : Nat} (h : W.heap = (h0.push o).push o2) (hn : n = h0.size) : W.heap[n]? = some o := by rw [h, hn, Array.getElem?_push, if_neg (by simp)]; simp
theorem slsN_at {w : World} {g o cap : Nat} {l : List Int} (h : Sls numE w (.slice (some ⟨g, o, Option.none⟩) l.length cap) l) : l.length ≤ cap ∧ cap ≤ maxLen ∧ (0 < l.length → g < w.heap.size ∧ ∀ (j : Nat) (hj : j < l.length), w.cell? ⟨g, o + j, none⟩ = some (.int .i64 l[j])) := by
  obtain ⟨a, cap', e, h1, h2, h3⟩ := h.one
  injection e with e1 _ e3
  subst e3
  refine ⟨h1, h2, fun h0 => ?_⟩
  obtain ⟨g', o', e4, hg, hc⟩ := h3 h0
  rw [← e1] at e4
  injection e4 with e4
  injection e4 with e4 e5
  subst e4
  subst e5
  exact ⟨hg, hc⟩
theorem opt_b {r : Nat} (hr : 1 ≤ r) (t S : List Int) (k : Nat) (n : Nat) (hl : t.length - k ≤ n) : opt r (t.drop k) S ≤ n := by
  have := opt_bound (k := r) (by omega) (t.drop k) S
  rw [List.length_drop] at this
  omega
set_option maxRecDepth 100000 in
set_option maxHeartbeats 8000000 in
theorem lawLeast : ∀ (n : Nat) (v vs : Value) (t S : List Int) (at_ r : Nat) (w : World), t.length - at_ = n → Sls numE w v t → Sls numE w vs S → (∃ g o c, vs = .slice (some ⟨g, o, none⟩) S.length c) → at_ ≤ t.length → t.length ≤ 60 → S.length ≤ r → 1 ≤ r ∧ r ≤ 10 →
    Calls Try.prog 27 #[v, .int .i64 (at_ : Int), vs, .int .i64 (r : Int)] w fun e w' => e = .returned (.int .i64 (opt r (t.drop at_) S : Int)) ∧ Below w.heap.size w w' := by
  intro n
  induction n using Nat.strongRecOn with
  | ind n ih =>
  intro v vs t S at_ r w hn h hs hvs hat hl hsr hr
  obtain ⟨sg, so, sc, rfl⟩ := hvs
  have HV : Hid (Sls numE w v t) := h
  have HVS : Hid (Sls numE w (.slice (some ⟨sg, so, none⟩) S.length sc) S) := hs
  have IH : Hid (∀ k, k < t.length → at_ ≤ k → ∀ (vs' : Value) (S' : List Int) (W : World), Below w.heap.size w W → Sls numE W vs' S' → (∃ g o c, vs' = .slice (some ⟨g, o, none⟩) S'.length c) → S'.length ≤ r →
      Calls Try.prog 27 #[v, .int .i64 ((k : Int) + 1), vs', .int .i64 (r : Int)] W fun e w' => e = .returned (.int .i64 (opt r (t.drop (k + 1)) S' : Int)) ∧ Below W.heap.size W w') :=
    fun k hk hka vs' S' W hW hS hv' hl' => ih (t.length - (k + 1)) (by omega) v vs' t S' (k + 1) r W rfl (h.kept hW) hS hv' (by omega) hl hl' hr
  clear ih
  obtain ⟨a, cap, rfl, h1, h2, h3⟩ := h.one
  obtain ⟨k1, k2, k3⟩ := slsN_at hs
  have H2 : Hid (cap ≤ maxLen) := h2
  have K2 : Hid (sc ≤ maxLen) := k2
  have hmx := mixed
  obtain ⟨O, hO⟩ : ∃ O, O = opt r (t.drop at_) S := ⟨_, rfl⟩
  rw [← hO]
  have HO : Hid (O = opt r (t.drop at_) S) := hO
  have hOb : O ≤ 60 := by rw [hO]; exact opt_b hr.1 t S at_ 60 (by clear h3 k3; omega)
  clear h hs h2 k2 hO hn
  go_enter Try.func27, Try.ntmps27
  go_wp2_with fail
  go_loopw [1] (fun z wr => ∃ k : Nat, at_ ≤ k ∧ k ≤ t.length ∧ z = .int .i64 k ∧ Hid (O = opt r (t.drop k) S) ∧ Hid (Below w.heap.size w wr)) (fun z _ => t.length - (intOf z).toNat)
  case atStart => exact ⟨at_, Nat.le_refl _, hat, rfl, HO, (show Hid _ from Below.refl _ _)⟩
  case round =>
    clear HO
    obtain ⟨k, hka, hk, rfl, hO, hb⟩ := hrel
    by_cases hlt : k < t.length
    · obtain ⟨g, q, rfl, hg, hc⟩ := h3 (by omega)
      obtain ⟨wo, rfl⟩ : ∃ z, z = wr := ⟨wr, rfl⟩
      have HX : Hid (∀ W, Below w.heap.size w W → W.cell? ⟨g, q + k, none⟩ = some (.int .i64 t[k])) := fun W hW => (hW.cell (p := ⟨g, q + k, none⟩) hg).trans (hc k hlt)
      have KH : Hid (t[k] ∈ S → O = opt r (t.drop (k + 1)) S) := fun hx => by
        have := hO.out
        rw [List.drop_eq_getElem_cons hlt, opt_hit hx] at this
        exact this
      have KR : Hid (t[k] ∉ S → S.length < r → O = 1 + opt r (t.drop (k + 1)) (S ++ [t[k]])) := fun hx hs => least_room (by omega) hlt hO.out hx hs
      have KD : Hid (t[k] ∉ S → S.length = r → ∀ b, (∀ i (hi : i < S.length), b ≤ 1 + opt r (t.drop (k + 1)) (S.set i t[k])) → (∃ i, ∃ hi : i < S.length, b = 1 + opt r (t.drop (k + 1)) (S.set i t[k])) → O = b) := fun hx hs b h1 h2 => least_full (by omega) hlt hO.out hx hs h1 h2
      have IHk := IH.out k hlt hka
      have IHK : Hid _ := IHk
      have GB : Hid (∀ S', opt r (t.drop (k + 1)) S' ≤ 59) := fun S' => opt_b hr.1 t S' (k + 1) 59 (by omega)
      generalize t[k] = x at HX KH KR KD
      obtain ⟨G, hG⟩ : ∃ G, G = opt r (t.drop (k + 1)) := ⟨_, rfl⟩
      rw [← hG] at KH KR KD IHK GB
      have HG : Hid (G = opt r (t.drop (k + 1))) := hG
      clear hG
      clear IHk
      have hki : (k : Int) < (t.length : Int) := by omega
      have hbz := hb.out.size
      clear hc h3 hO IH
      go_wp2_with fail
      go_loopw [9, 10] (fun f j wr => ∃ jj : Nat, jj ≤ S.length ∧ j = .int .i64 jj ∧ f = .bool (decide (x ∈ S.take jj)) ∧ Hid (Below wo.heap.size wo wr)) (fun _ j _ => S.length - (intOf j).toNat)
      case atStart => exact ⟨0, Nat.zero_le _, rfl, by simp, (show Hid _ from Below.refl _ _)⟩
      case round =>
        obtain ⟨j, hj, rfl, rfl, hb2⟩ := hrel
        obtain ⟨wi, rfl⟩ : ∃ z, z = wr := ⟨wr, rfl⟩
        have B2 : Below w.heap.size w wi := hb.out.trans (hb2.out.mono hbz)
        have c1 := HX.out _ B2
        by_cases hlj : j < S.length
        · obtain ⟨hsg, hsc⟩ := k3 (by omega)
          have d0 := (B2.cell (p := ⟨sg, so + j, none⟩) hsg).trans (hsc j hlj)
          have HME : Hid (decide (x ∈ S.take (j + 1)) = (decide (x ∈ S.take j) || decide (S[j] = x))) := mem_next hlj
          generalize S[j] = z at d0 HME
          generalize decide (x ∈ S.take j) = f1 at HME ⊢
          have hji : (j : Int) < (S.length : Int) := by omega
          clear hsc k3
          cases f1 with
          | true =>
            have Hf : Hid (decide (x ∈ S.take (j + 1)) = true) := by show _ = _; rw [HME.out]; rfl
            go_wp2_with fail
            go_quiet (fail)
            have hb3 : Hid (Below wo.heap.size wo (wi.drewN nq)) := (show Hid _ from ⟨hb2.out.os, hb2.out.tape, hb2.out.output, hb2.out.size, hb2.out.block⟩)
            generalize wi.drewN nq = w9 at hb3 ⊢
            go_wp2_with fail
            go_roundw
            case rel => exact ⟨j + 1, by omega, by go_num, by rw [Hf.out], hb3⟩
            case measure => simp [intOf]; omega
          | false =>
            have Hf : Hid (decide (x ∈ S.take (j + 1)) = (z == x)) := by
              show _ = _
              rw [HME.out]
              by_cases e : z = x <;> simp [e]
            go_wp2_with fail
            go_quiet (fail)
            have hb3 : Hid (Below wo.heap.size wo (wi.drewN nq)) := (show Hid _ from ⟨hb2.out.os, hb2.out.tape, hb2.out.output, hb2.out.size, hb2.out.block⟩)
            generalize wi.drewN nq = w9 at hb3 ⊢
            go_wp2_with fail
            go_roundw
            case rel => exact ⟨j + 1, by omega, by go_num, by rw [Hf.out], hb3⟩
            case measure => simp [intOf]; omega
        · obtain rfl : j = S.length := by omega
          rw [List.take_of_length_le (Nat.le_refl _)]
          have HB9 : Hid (Below w.heap.size w wi) := B2
          clear hb2 hb B2
          by_cases hin : x ∈ S
          · rw [decide_eq_true hin]
            have HO2 : Hid _ := KH.out hin
            go_wp2_with fail
            go_roundw
            case rel => exact ⟨k + 1, by omega, by omega, by go_num, (by show _ = _; rw [← HG.out]; exact HO2.out), HB9⟩
            case measure => simp [intOf]; omega
          · rw [decide_eq_false hin]
            have HIN : Hid (x ∉ S) := hin
            clear KH
            have hke : ((k : Int) == (t.length : Int)) = false := by rw [beq_eq_false_iff_ne]; omega
            have hwz := HB9.out.size
            by_cases hfull : S.length = r
            · have hfe : ¬ ((S.length : Int) < (r : Int)) := by omega
              have HFU : Hid (S.length = r) := hfull
              have hS1 : 1 ≤ S.length := by omega
              have hS10 : S.length ≤ 10 := by omega
              have HOb : Hid _ := KD.out hin hfull
              clear hfull KR KD hin
              go_wp2_with fail
              clear k3 hfe
              go_loopw [11, 12] (fun bb iz wr => ∃ (b i : Nat), bb = .int .i64 b ∧ iz = .int .i64 i ∧ i ≤ S.length ∧ b ≤ 1000 ∧ Hid (∀ j, j < i → b ≤ 1 + G (S.set j x)) ∧ Hid ((i = 0 ∧ b = 1000) ∨ ∃ j, ∃ hj : j < S.length, b = 1 + G (S.set j x)) ∧ Hid (Below wi.heap.size wi wr)) (fun _ iz _ => S.length - (intOf iz).toNat)
              case atStart => exact ⟨1000, 0, rfl, rfl, Nat.zero_le _, Nat.le_refl _, (show Hid _ from fun j hj => absurd hj (Nat.not_lt_zero _)), (show Hid _ from .inl ⟨rfl, rfl⟩), (show Hid _ from Below.refl _ _)⟩
              case round =>
                obtain ⟨b, i, rfl, rfl, hiS, hb1, hlo, hex, hb3⟩ := hrel
                obtain ⟨wz, rfl⟩ : ∃ z, z = wr := ⟨wr, rfl⟩
                have B3 : Below w.heap.size w wz := HB9.out.trans (hb3.out.mono hwz)
                have B3H : Hid (Below w.heap.size w wz) := B3
                have B3z := B3.size
                have hiz := hb3.out.size
                by_cases his : i < S.length
                · have CS : Hid _ := slsN_cells (HVS.out.kept (B3.alloc B3z (.cells #[] 2)))
                  have hii : (i : Int) < (S.length : Int) := by omega
                  clear B3
                  go_wp2_with (at_builtin; go_must (refine wpList_rowE (E := numE) _ rfl (.tmp 70) (.tmp 71) 24 2 (.int .i64 0) 8 Try.underlying24 Try.infoN2 rfl rfl wz.heap.size (.slice (some ⟨wz.heap.size, 0, Option.none⟩) 0 0) [] rfl (OwnsE.born wz) ⟨sg, so, Option.none⟩ sc S rfl CS.out (by simp only [List.length_nil]; unfold maxLen; omega) (by simp only [List.length_nil]; omega) (by simp) ?_; intro v6 w6 ho6 hg6 hn6; rw [List.nil_append] at ho6; obtain ⟨g6, c6, hv6⟩ := ownsN_form ho6 hS1; subst hv6; have O6 : Hid (OwnsN w6 wz.heap.size (.slice (some ⟨g6, 0, Option.none⟩) S.length c6) S) := ho6; have b6 : Below w.heap.size w w6 := belowE (B3H.out.alloc B3z (.cells #[] 2)) hg6 (by simp; omega) (fun q hq => by simp [Value.ownBlock] at hq; omega); have B6 : Hid _ := b6; have f6 := HX.out _ b6; have f7 := ownsN_at ho6 i his; have f8 := OwnsE.free rfl ho6 i; have G6 : Hid _ := hg6; clear ho6 hg6 hn6 b6))
                  have hg6w : w.heap.size ≤ g6 := Nat.le_trans B3z (O6.out.from g6 rfl)
                  have P6 : Hid (OwnsN (w6.setCell ⟨g6, i, Option.none⟩ (.int .i64 x)) wz.heap.size (.slice (some ⟨g6, 0, Option.none⟩) S.length c6) (S.set i x)) := ownsN_put rfl O6.out his x
                  have BW : Hid (Below w.heap.size w (w6.setCell ⟨g6, i, Option.none⟩ (.int .i64 x))) := B6.out.setCell (p := ⟨g6, i, Option.none⟩) hg6w _
                  have BZ : Hid (Below wi.heap.size wi (w6.setCell ⟨g6, i, Option.none⟩ (.int .i64 x))) := (belowE (hb3.out.alloc hiz (.cells #[] 2)) G6.out (by simp; omega) (fun q hq => by simp [Value.ownBlock] at hq; omega)).setCell (p := ⟨g6, i, Option.none⟩) (Nat.le_trans hiz (O6.out.from g6 rfl)) _
                  refine (IHK.out _ (S.set i x) _ BW.out P6.out.sls ⟨g6, 0, c6, by rw [List.length_set]⟩ (by rw [List.length_set]; exact hsr)).mono ?_
                  rintro e w' ⟨rfl, hbc⟩
                  have hb9 : Hid (Below wi.heap.size wi w') := BZ.out.trans (hbc.mono BZ.out.size)
                  have hN := GB.out (S.set i x)
                  obtain ⟨N, hNe⟩ : ∃ N, N = G (S.set i x) := ⟨_, rfl⟩
                  rw [← hNe] at hN ⊢
                  have HN : Hid (N = G (S.set i x)) := hNe
                  clear hNe hbc P6 BW BZ O6 G6 B6 f6 f7 f8
                  by_cases hlb : 1 + N < b
                  · have q1 : 1 + (N : Int) < (b : Int) := by omega
                    have LO : Hid (∀ j, j < i + 1 → 1 + N ≤ 1 + G (S.set j x)) := fun j hj => by
                      by_cases e : j = i
                      · rw [e, ← HN.out]; exact Nat.le_refl _
                      · have := hlo.out j (by omega); omega
                    have EX : Hid ((i + 1 = 0 ∧ 1 + N = 1000) ∨ ∃ j, ∃ hj : j < S.length, 1 + N = 1 + G (S.set j x)) := .inr ⟨i, his, by rw [← HN.out]⟩
                    go_wp2_with fail
                    go_roundw
                    case rel => exact ⟨1 + N, i + 1, by go_num, by go_num, by omega, by omega, LO, EX, hb9⟩
                    case measure => simp [intOf]; omega
                  · have q1 : ¬ 1 + (N : Int) < (b : Int) := by omega
                    have LO : Hid (∀ j, j < i + 1 → b ≤ 1 + G (S.set j x)) := fun j hj => by
                      by_cases e : j = i
                      · rw [e, ← HN.out]; omega
                      · have := hlo.out j (by omega); omega
                    have EX : Hid ((i + 1 = 0 ∧ b = 1000) ∨ ∃ j, ∃ hj : j < S.length, b = 1 + G (S.set j x)) := by
                      rcases hex.out with ⟨_, e⟩ | e
                      · omega
                      · exact .inr e
                    go_wp2_with fail
                    go_roundw
                    case rel => exact ⟨b, i + 1, by go_num, by go_num, by omega, by omega, LO, EX, hb9⟩
                    case measure => simp [intOf]; omega
                · obtain rfl : i = S.length := by omega
                  have HE : Hid ((b : Int) = (O : Int)) := by
                    show _ = _
                    rw [HOb.out b (fun j hj => hlo.out j hj) (hex.out.resolve_left (fun e => by omega))]
                  have HBR : Hid (Below w.heap.size w wz) := B3
                  clear B3
                  go_wp2
                  go_ret
                  exact ⟨congrArg (fun z => Ending.returned (.int .i64 z)) HE.out, HBR.out⟩
            · have hfe : (S.length : Int) < (r : Int) := by omega
              have HO2 : Hid (O = 1 + G (S ++ [x])) := KR.out hin (by omega)
              clear KR KD hin
              go_wp2_with fail
              have hgw : g < wi.heap.size := by omega
              have hwr : IntKind.i64.wrap ((k : Int) + 1) = (k : Int) + 1 := by rw [IntKind.wrap_i64]; omega
              have hS10 : S.length ≤ 10 := by omega
              have hGx := GB.out (S ++ [x])
              obtain ⟨N, hNe⟩ : ∃ N, N = G (S ++ [x]) := ⟨_, rfl⟩
              have HN : Hid (N = G (S ++ [x])) := hNe
              rw [← hNe] at hGx
              have hw2 : IntKind.i64.wrap (1 + (N : Int)) = 1 + (N : Int) := by rw [IntKind.wrap_i64]; omega
              have HE : Hid (1 + (N : Int) = (O : Int)) := by show _ = _; rw [HO2.out, HN.out]; omega
              clear hNe
              go_region_law (first | (refine step_rowE (E := numE) rfl (.tmp 52) (.tmp 53) 24 2 (.int .i64 0) 8 Try.underlying24 Try.infoN2 rfl rfl wi.heap.size (.slice (some ⟨wi.heap.size, 0, Option.none⟩) 0 0) [] (by simp [Act.eval]) (bornN (by omega) (by exact push_last (by rfl) (by rfl))) ⟨sg, so, Option.none⟩ sc S (by simp [Act.eval]) (by exact slsN_cells ((HVS.out.kept HB9.out).kept (below_push1 (by rfl) (by rfl) (by rfl) (by rfl)))) (by simp only [List.length_nil]; unfold maxLen; omega) (by simp only [List.length_nil]; omega) (by first | (simp; done) | (simp; omega)) ?_; intro v7 w7 ho7 hg7 hn7; rw [List.nil_append] at ho7; have O7 : Hid (OwnsN w7 wi.heap.size v7 S) := ho7; have b7 : Below wi.heap.size wi w7 := belowE (below_push1 (by rfl) (by rfl) (by rfl) (by rfl)) hg7 (by first | (simp; done) | (simp; omega)) (fun q hq => by simp [Value.ownBlock] at hq; omega); have B7 : Hid (Below wi.heap.size wi w7) := b7; have f7 := HX.out _ (HB9.out.trans (b7.mono hwz)); clear ho7 hg7 hn7 b7) | (refine step_rowE (E := numE) rfl (.tmp 52) (.tmp 53) 24 2 (.int .i64 0) 8 Try.underlying24 Try.infoN2 rfl rfl wi.heap.size (.slice (some ⟨wi.heap.size, 0, Option.none⟩) 0 0) [] (by simp [Act.eval]) (bornN (by omega) (by exact push_prev (by rfl) (by rfl))) ⟨sg, so, Option.none⟩ sc S (by simp [Act.eval]) (by exact slsN_cells ((HVS.out.kept HB9.out).kept (below_push2 (by rfl) (by rfl) (by rfl) (by rfl)))) (by simp only [List.length_nil]; unfold maxLen; omega) (by simp only [List.length_nil]; omega) (by first | (simp; done) | (simp; omega)) ?_; intro v7 w7 ho7 hg7 hn7; rw [List.nil_append] at ho7; have O7 : Hid (OwnsN w7 wi.heap.size v7 S) := ho7; have b7 : Below wi.heap.size wi w7 := belowE (below_push2 (by rfl) (by rfl) (by rfl) (by rfl)) hg7 (by first | (simp; done) | (simp; omega)) (fun q hq => by simp [Value.ownBlock] at hq; omega); have B7 : Hid (Below wi.heap.size wi w7) := b7; have f7 := HX.out _ (HB9.out.trans (b7.mono hwz)); have X7 : Hid (w7.heap[wi.heap.size + 1]? = some (.cells #[.int .i64 x] 2)) := keepX hg7 (by exact push_last (by rfl) (by simp)) (Nat.succ_ne_self _); clear ho7 hg7 hn7 b7) | (refine step_rowE (E := numE) rfl (.tmp 52) (.tmp 53) 24 2 (.int .i64 0) 8 Try.underlying24 Try.infoN2 rfl rfl wi.heap.size (.slice (some ⟨wi.heap.size + 1, 0, Option.none⟩) 0 0) [] (by simp [Act.eval]) (bornN (by omega) (by exact push_last (by rfl) (by simp))) ⟨sg, so, Option.none⟩ sc S (by simp [Act.eval]) (by exact slsN_cells ((HVS.out.kept HB9.out).kept (below_push2 (by rfl) (by rfl) (by rfl) (by rfl)))) (by simp only [List.length_nil]; unfold maxLen; omega) (by simp only [List.length_nil]; omega) (by first | (simp; done) | (simp; omega)) ?_; intro v7 w7 ho7 hg7 hn7; rw [List.nil_append] at ho7; have O7 : Hid (OwnsN w7 wi.heap.size v7 S) := ho7; have b7 : Below wi.heap.size wi w7 := belowE (below_push2 (by rfl) (by rfl) (by rfl) (by rfl)) hg7 (by first | (simp; done) | (simp; omega)) (fun q hq => by simp [Value.ownBlock] at hq; omega); have B7 : Hid (Below wi.heap.size wi w7) := b7; have f7 := HX.out _ (HB9.out.trans (b7.mono hwz)); have X7 : Hid (w7.heap[wi.heap.size]? = some (.cells #[.int .i64 x] 2)) := keepX hg7 (by exact push_prev (by rfl) (by rfl)) (Nat.ne_of_lt (Nat.lt_succ_self _)); clear ho7 hg7 hn7 b7) | (refine step_rowE (E := numE) rfl (.tmp 54) (.tmp 59) 24 2 (.int .i64 0) 8 Try.underlying24 Try.infoN2 rfl rfl wi.heap.size v7 S (by simp [Act.eval]) (by exact O7.out.kept (below_push1 (by rfl) (by rfl) (by rfl) (by rfl))) ⟨w7.heap.size, 0, Option.none⟩ 1 [x] (by simp [Act.eval]) (cellX (by exact push_last (by rfl) (by rfl))) (by simp only [List.length_singleton]; unfold maxLen; omega) (by simp only [List.length_singleton]; omega) (by have := B7.out.size; simp; omega) ?_; intro v8 w8 ho8 hg8 hn8; obtain ⟨g8, c8, hv8⟩ := ownsN_form ho8 (by simp); subst hv8; have hl8 : (S ++ [x]).length = S.length + 1 := (by simp); rw [hl8] at ho8 ⊢; have O8 : Hid (OwnsN w8 wi.heap.size (.slice (some ⟨g8, 0, Option.none⟩) (S.length + 1) c8) (S ++ [x])) := ho8; clear hl8; have B8 : Hid (Below wi.heap.size wi w8) := belowE (B7.out.trans ((below_push1 (by rfl) (by rfl) (by rfl) (by rfl) : Below w7.heap.size w7 _).mono B7.out.size)) hg8 (by have := B7.out.size; simp; omega) (fun q hq => O7.out.from q hq); clear ho8 hg8 hn8) | (refine step_rowE (E := numE) rfl (.tmp 54) (.tmp 59) 24 2 (.int .i64 0) 8 Try.underlying24 Try.infoN2 rfl rfl wi.heap.size v7 S (by simp [Act.eval]) (by exact O7.out.kept (below_push0 (by rfl) (by rfl) (by rfl) (by rfl))) ⟨wi.heap.size + 1, 0, Option.none⟩ 1 [x] (by simp [Act.eval]) (cellX (by exact X7.out)) (by simp only [List.length_singleton]; unfold maxLen; omega) (by simp only [List.length_singleton]; omega) (by have := B7.out.size; simp; omega) ?_; intro v8 w8 ho8 hg8 hn8; obtain ⟨g8, c8, hv8⟩ := ownsN_form ho8 (by simp); subst hv8; have hl8 : (S ++ [x]).length = S.length + 1 := (by simp); rw [hl8] at ho8 ⊢; have O8 : Hid (OwnsN w8 wi.heap.size (.slice (some ⟨g8, 0, Option.none⟩) (S.length + 1) c8) (S ++ [x])) := ho8; clear hl8; have B8 : Hid (Below wi.heap.size wi w8) := belowE (B7.out.trans ((below_push0 (by rfl) (by rfl) (by rfl) (by rfl) : Below w7.heap.size w7 _).mono B7.out.size)) hg8 (by have := B7.out.size; simp; omega) (fun q hq => O7.out.from q hq); clear ho8 hg8 hn8) | (refine step_rowE (E := numE) rfl (.tmp 54) (.tmp 59) 24 2 (.int .i64 0) 8 Try.underlying24 Try.infoN2 rfl rfl wi.heap.size v7 S (by simp [Act.eval]) (by exact O7.out.kept (below_push0 (by rfl) (by rfl) (by rfl) (by rfl))) ⟨wi.heap.size, 0, Option.none⟩ 1 [x] (by simp [Act.eval]) (cellX (by exact X7.out)) (by simp only [List.length_singleton]; unfold maxLen; omega) (by simp only [List.length_singleton]; omega) (by have := B7.out.size; simp; omega) ?_; intro v8 w8 ho8 hg8 hn8; obtain ⟨g8, c8, hv8⟩ := ownsN_form ho8 (by simp); subst hv8; have hl8 : (S ++ [x]).length = S.length + 1 := (by simp); rw [hl8] at ho8 ⊢; have O8 : Hid (OwnsN w8 wi.heap.size (.slice (some ⟨g8, 0, Option.none⟩) (S.length + 1) c8) (S ++ [x])) := ho8; clear hl8; have B8 : Hid (Below wi.heap.size wi w8) := belowE (B7.out.trans ((below_push0 (by rfl) (by rfl) (by rfl) (by rfl) : Below w7.heap.size w7 _).mono B7.out.size)) hg8 (by have := B7.out.size; simp; omega) (fun q hq => O7.out.from q hq); clear ho8 hg8 hn8) | (go_simp; go_at_call 27; refine (IHK.out _ (S ++ [x]) _ (by exact HB9.out.trans ((B8.out.trans ((below_push0 (by rfl) (by rfl) (by rfl) (by rfl) : Below w8.heap.size w8 _).mono B8.out.size)).mono hwz)) (by exact (O8.out.kept (below_push0 (by rfl) (by rfl) (by rfl) (by rfl))).sls) (by exact ⟨g8, 0, c8, by simp⟩) (by simp; omega)).mono ?_; rintro e w9 ⟨rfl, hb9⟩; rw [← HN.out]; have B9 : Hid (Below wi.heap.size wi w9) := B8.out.trans (Below.trans ((below_push0 (by rfl) (by rfl) (by rfl) (by rfl) : Below w8.heap.size w8 _).mono B8.out.size) (hb9.mono B8.out.size)); clear hb9))
              all_goals
                clear O7 O8 f7
                have HBR : Hid (Below w.heap.size w w9) := HB9.out.trans (B9.out.mono hwz)
                go_wp2
                go_ret
                exact ⟨congrArg (fun z => Ending.returned (.int .i64 z)) HE.out, HBR.out⟩
    · obtain rfl : k = t.length := by omega
      have HE : Hid ((0 : Int) = (O : Int)) := by
        have := hO.out
        rw [List.drop_of_length_le (Nat.le_refl _)] at this
        show _ = _
        rw [this]
        rfl
      go_wp2
      go_ret
      exact ⟨congrArg (fun z => Ending.returned (.int .i64 z)) HE.out, hb.out⟩
end Go.Proofs.Ytnnmbgenepfacaa
