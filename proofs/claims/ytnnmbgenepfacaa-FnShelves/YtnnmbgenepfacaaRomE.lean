/-
  The specification's Best.
-/
import Derived.Test.YtnnmbgenepfacaaRomD
import Derived.Deep.RegionLaw
namespace Go.Proofs.Ytnnmbgenepfacaa
open Go.RowKit Go.Sort Rom
set_option linter.unusedVariables false
set_option linter.unusedSimpArgs false

theorem drop_perm {S : List Int} {d : Nat} (hd : d < S.length) : (S.take d ++ S.drop (d + 1)).Perm (S.erase S[d]) := by
  have e : S = S.take d ++ S[d] :: S.drop (d + 1) := by rw [← List.drop_eq_getElem_cons hd, List.take_append_drop]
  have p1 : S.Perm (S[d] :: (S.take d ++ S.drop (d + 1))) := by
    have := List.perm_middle (a := S[d]) (l₁ := S.take d) (l₂ := S.drop (d + 1))
    rw [← e] at this
    exact this
  exact (List.perm_cons _).1 (p1.symm.trans (List.perm_cons_erase (List.getElem_mem hd)))
theorem drop_permX {S : List Int} {d : Nat} (hd : d < S.length) (x : Int) : (S.take d ++ S.drop (d + 1) ++ [x]).Perm (x :: S.erase S[d]) :=
  (List.perm_append_comm (l₁ := S.take d ++ S.drop (d + 1)) (l₂ := [x])).trans ((drop_perm hd).cons x)
/-- The best so far, one number on: it is there. -/
theorem best_hit {r k m O : Nat} {t S : List Int} (hk : k < t.length) (h : m + opt r (t.drop k) S = O) (hx : t[k] ∈ S) : m + opt r (t.drop (k + 1)) S = O := by
  rw [List.drop_eq_getElem_cons hk, opt_hit hx] at h
  exact h
theorem best_room {r k m O : Nat} {t S : List Int} (hr : 0 < r) (hk : k < t.length) (h : m + opt r (t.drop k) S = O) (hx : t[k] ∉ S) (hl : S.length < r) : m + 1 + opt r (t.drop (k + 1)) (S ++ [t[k]]) = O := by
  rw [List.drop_eq_getElem_cons hk, opt_room hx hl] at h
  rw [opt_perm hr _ _ _ (List.perm_append_comm (l₁ := S) (l₂ := [t[k]]))]
  show m + 1 + opt r (t.drop (k + 1)) (t[k] :: S) = O
  omega
theorem best_drop {r k m O d : Nat} {t S : List Int} (hr : 0 < r) (hk : k < t.length) (h : m + opt r (t.drop k) S = O) (hx : t[k] ∉ S) (hl : S.length = r) (hn : S.Nodup) (hd : d < S.length) (hla : ∀ y ∈ S, (t.drop (k + 1)).idxOf y ≤ (t.drop (k + 1)).idxOf S[d]) : m + 1 + opt r (t.drop (k + 1)) (S.take d ++ S.drop (d + 1) ++ [t[k]]) = O := by
  rw [List.drop_eq_getElem_cons hk, opt_latest hr hx hl hn (List.getElem_mem hd) hla] at h
  rw [opt_perm hr _ _ _ (drop_permX hd t[k])]
  omega
theorem nodup_push {S : List Int} {x : Int} (hn : S.Nodup) (hx : x ∉ S) : (S ++ [x]).Nodup := by
  have p := List.perm_append_comm (l₁ := S) (l₂ := [x])
  rw [p.nodup_iff]
  show (x :: S).Nodup
  rw [List.nodup_cons]
  exact ⟨hx, hn⟩
theorem nodup_drop {S : List Int} {x : Int} {d : Nat} (hn : S.Nodup) (hx : x ∉ S) (hd : d < S.length) : (S.take d ++ S.drop (d + 1) ++ [x]).Nodup := by
  rw [(drop_permX hd x).nodup_iff, List.nodup_cons]
  exact ⟨fun h => hx (List.mem_of_mem_erase h), hn.erase _⟩
theorem late_next {S ts : List Int} {d kk : Nat} (hd : d < kk) (hk : kk < S.length) (h : ∀ y ∈ S.take kk, ts.idxOf y ≤ ts.idxOf (S[d]'(by omega))) (hle : ts.idxOf S[kk] ≤ ts.idxOf (S[d]'(by omega))) : ∀ y ∈ S.take (kk + 1), ts.idxOf y ≤ ts.idxOf (S[d]'(by omega)) := by
  intro y hy
  rw [List.take_succ_eq_append_getElem hk] at hy
  rcases List.mem_append.1 hy with e | e
  · exact h y e
  · rw [List.mem_singleton.1 e]; exact hle
theorem late_turn {S ts : List Int} {d kk : Nat} (hd : d < kk) (hk : kk < S.length) (h : ∀ y ∈ S.take kk, ts.idxOf y ≤ ts.idxOf (S[d]'(by omega))) (hle : ts.idxOf (S[d]'(by omega)) ≤ ts.idxOf S[kk]) : ∀ y ∈ S.take (kk + 1), ts.idxOf y ≤ ts.idxOf S[kk] := by
  intro y hy
  rw [List.take_succ_eq_append_getElem hk] at hy
  rcases List.mem_append.1 hy with e | e
  · exact Nat.le_trans (h y e) hle
  · rw [List.mem_singleton.1 e]; exact Nat.le_refl _
theorem takeN {w x : World} {B g n cap k : Nat} {l : List Int} (h : OwnsN w B (.slice (some ⟨g, 0, Option.none⟩) n cap) l) (hn : n = l.length) (hk : k ≤ l.length) (hx : x.heap[g]? = w.heap[g]?) : ∀ j u, (cellsE numE (l.take k))[j]? = some u → x.cell? ((⟨g, 0, Option.none⟩ : Addr).add j) = some u := fun j u hu => by
  subst hn
  rw [cellsE_take numE l k hk, List.getElem?_take] at hu
  split at hu
  · have k1 := World.ownsRow.cells h (g := g) rfl j u hu
    rw [addr_add] at k1 ⊢
    rw [← k1]
    simp only [World.cell?]
    rw [hx]
  · cases hu
set_option maxRecDepth 100000 in
set_option maxHeartbeats 8000000 in
theorem specBestIn (v : Value) (t : List Int) (r : Nat) (w : World) (h : Sls numE w v t) (hl : t.length ≤ 60) (hr : 1 ≤ r ∧ r ≤ 10) (hT : toldB t (r : Int) = true) :
    Calls Try.prog 25 #[v, .int .i64 (r : Int)] w fun e w' => e = .returned (.int .i64 (opt r t [] : Int)) ∧ Below w.heap.size w w' := by
  have HT := specTold _ t (r : Int) w h
  rw [hT] at HT
  have HSL : Hid (Sls numE w v t) := h
  obtain ⟨a, cap, rfl, h1, h2, h3⟩ := h.one
  have H2 : Hid (cap ≤ maxLen) := h2
  have HO : Hid (0 + opt r (t.drop 0) [] = opt r t []) := by show _ = _; rw [List.drop_zero, Nat.zero_add]
  generalize opt r t [] = O at HO ⊢
  have hmx := mixed
  clear h h2 hT
  go_enter Try.func25, Try.ntmps25
  go_wp2_with (go_at_call 57; refine HT.mono ?_; rintro e w' ⟨rfl, rfl⟩)
  clear HT
  go_loopw [5, 6, 7] (fun s mm i wr => ∃ (k m : Nat) (sa : Option Addr) (sc : Nat) (S : List Int), k ≤ t.length ∧ i = .int .i64 k ∧ mm = .int .i64 (m : Int) ∧ s = .slice sa S.length sc ∧ m ≤ k ∧ Hid (m + opt r (t.drop k) S = O) ∧ Hid S.Nodup ∧ S.length ≤ r ∧ Hid (OwnsN wr w.heap.size (.slice sa S.length sc) S) ∧ Hid (Below w.heap.size w wr)) (fun _ _ i _ => t.length - (intOf i).toNat)
  case atStart => exact ⟨0, 0, _, _, [], Nat.zero_le _, rfl, rfl, rfl, Nat.le_refl _, HO, (show Hid _ from List.nodup_nil), Nat.zero_le _, (show Hid _ from OwnsE.born w), (show Hid _ from (Below.refl _ w).alloc (Nat.le_refl _) _)⟩
  case round =>
    clear HO
    obtain ⟨k, m, sa, sc, S, hk, rfl, rfl, rfl, hmk, hO, hnd, hsr, ho, hb⟩ := hrel
    by_cases hlt : k < t.length
    · obtain ⟨g, q, rfl, hg, hc⟩ := h3 (by omega)
      obtain ⟨wo, rfl⟩ : ∃ z, z = wr := ⟨wr, rfl⟩
      have HX : Hid (∀ W, Below w.heap.size w W → W.cell? ⟨g, q + k, none⟩ = some (.int .i64 t[k])) := fun W hW => (hW.cell (p := ⟨g, q + k, none⟩) hg).trans (hc k hlt)
      have KH : Hid (t[k] ∈ S → m + opt r (t.drop (k + 1)) S = O) := fun hx => best_hit hlt hO.out hx
      have KR : Hid (t[k] ∉ S → S.length < r → m + 1 + opt r (t.drop (k + 1)) (S ++ [t[k]]) = O) := fun hx hs => best_room (by omega) hlt hO.out hx hs
      have KD : Hid (t[k] ∉ S → S.length = r → ∀ d (hd : d < S.length), (∀ y ∈ S, (t.drop (k + 1)).idxOf y ≤ (t.drop (k + 1)).idxOf S[d]) → m + 1 + opt r (t.drop (k + 1)) (S.take d ++ S.drop (d + 1) ++ [t[k]]) = O) := fun hx hs d hd hla => best_drop (by omega) hlt hO.out hx hs hnd.out hd hla
      have HAG : Hid (∀ (y : Int) (W : World), Below w.heap.size w W → Calls Try.prog 66 #[.slice (some ⟨g, q, none⟩) t.length cap, .int .i64 (k : Int), .int .i64 y] W fun e w' => e = .returned (.int .i64 ((k + 1 + (t.drop (k + 1)).idxOf y : Nat) : Int)) ∧ W = w') := fun y W hW => specAgain _ t k y W (HSL.out.kept hW) hlt hl
      generalize t[k] = x at HX KH KR KD
      have hki : (k : Int) < (t.length : Int) := by omega
      have hbz := hb.out.size
      clear hc h3 hO
      go_wp2_with fail
      go_loopw [8, 9] (fun f j wr => ∃ jj : Nat, jj ≤ S.length ∧ j = .int .i64 jj ∧ f = .bool (decide (x ∈ S.take jj)) ∧ Hid (Below wo.heap.size wo wr)) (fun _ j _ => S.length - (intOf j).toNat)
      case atStart => exact ⟨0, Nat.zero_le _, rfl, by simp, (show Hid _ from Below.refl _ _)⟩
      case round =>
        obtain ⟨j, hj, rfl, rfl, hb2⟩ := hrel
        obtain ⟨wi, rfl⟩ : ∃ z, z = wr := ⟨wr, rfl⟩
        have B2 : Below w.heap.size w wi := hb.out.trans (hb2.out.mono hbz)
        have c1 := HX.out _ B2
        by_cases hlj : j < S.length
        · obtain ⟨sg, rfl⟩ := ownsN_some ho.out (by omega)
          have d0 := ownsN_at (ho.out.kept hb2.out) j hlj
          have HME : Hid (decide (x ∈ S.take (j + 1)) = (decide (x ∈ S.take j) || decide (S[j] = x))) := mem_next hlj
          generalize S[j] = z at d0 HME
          generalize decide (x ∈ S.take j) = f1 at HME ⊢
          have hji : (j : Int) < (S.length : Int) := by omega
          cases f1 with
          | true =>
            have Hf : Hid (decide (x ∈ S.take (j + 1)) = true) := by show _ = _; rw [HME.out]; rfl
            go_wp2_with fail
            go_quiet (fail)
            have hb3 : Hid (Below wo.heap.size wo (wi.drewN nq)) := (show Hid _ from ⟨hb2.out.os, hb2.out.tape, hb2.out.output, hb2.out.size, hb2.out.block⟩)
            generalize wi.drewN nq = w9 at hb3 ⊢
            go_wp2_with fail
            go_roundw
            case rel => exact ⟨j + 1, by omega, by go_num, by rw [Hf.out], hb3⟩
            case measure => simp [intOf]; omega
          | false =>
            have Hf : Hid (decide (x ∈ S.take (j + 1)) = (z == x)) := by
              show _ = _
              rw [HME.out]
              by_cases e : z = x <;> simp [e]
            go_wp2_with fail
            go_quiet (fail)
            have hb3 : Hid (Below wo.heap.size wo (wi.drewN nq)) := (show Hid _ from ⟨hb2.out.os, hb2.out.tape, hb2.out.output, hb2.out.size, hb2.out.block⟩)
            generalize wi.drewN nq = w9 at hb3 ⊢
            go_wp2_with fail
            go_roundw
            case rel => exact ⟨j + 1, by omega, by go_num, by rw [Hf.out], hb3⟩
            case measure => simp [intOf]; omega
        · obtain rfl : j = S.length := by omega
          rw [List.take_of_length_le (Nat.le_refl _)]
          have HOW : Hid (OwnsN wi w.heap.size (.slice sa S.length sc) S) := ho.out.kept hb2.out
          have HB9 : Hid (Below w.heap.size w wi) := B2
          clear hb2 ho hb B2
          by_cases hin : x ∈ S
          · rw [decide_eq_true hin]
            have HO2 : Hid _ := KH.out hin
            go_wp2_with fail
            go_roundw
            case rel => exact ⟨k + 1, m, sa, sc, S, by omega, by go_num, rfl, rfl, by omega, HO2, hnd, hsr, HOW, HB9⟩
            case measure => simp [intOf]; omega
          · rw [decide_eq_false hin]
            have HIN : Hid (x ∉ S) := hin
            clear KH
            by_cases hfull : S.length = r
            · have hfe : ((S.length : Int) == (r : Int)) = true := by rw [beq_iff_eq]; omega
              obtain ⟨sg, rfl⟩ := ownsN_some HOW.out (by omega)
              have hwz := HB9.out.size
              have HFU : Hid (S.length = r) := hfull
              have hS1 : 1 ≤ S.length := by omega
              have hS10 : S.length ≤ 10 := by omega
              clear hfull KR
              go_wp2_with fail
              clear hfe
              go_loopw [10, 11] (fun dd kz wr => ∃ (d kk : Nat), dd = .int .i64 d ∧ kz = .int .i64 kk ∧ d < kk ∧ kk ≤ S.length ∧ (∃ hd : d < S.length, Hid (∀ y ∈ S.take kk, (t.drop (k + 1)).idxOf y ≤ (t.drop (k + 1)).idxOf S[d])) ∧ Hid (Below wi.heap.size wi wr)) (fun _ kz _ => S.length - (intOf kz).toNat)
              case atStart =>
                refine ⟨0, 1, rfl, rfl, by omega, by omega, ⟨by omega, fun y hy => ?_⟩, (show Hid _ from Below.refl _ _)⟩
                rw [List.take_succ_eq_append_getElem (by omega)] at hy
                simp at hy
                rw [hy]
                exact Nat.le_refl _
              case round =>
                obtain ⟨d, kk, rfl, rfl, hdk, hkS, ⟨hd, hla⟩, hb3⟩ := hrel
                obtain ⟨wz, rfl⟩ : ∃ z, z = wr := ⟨wr, rfl⟩
                have B3 : Below w.heap.size w wz := HB9.out.trans (hb3.out.mono hwz)
                have O3 := HOW.out.kept hb3.out
                by_cases hks : kk < S.length
                · have e0 := ownsN_at O3 kk hks
                  have e1 := ownsN_at O3 d hd
                  have L1 : Hid ((t.drop (k + 1)).idxOf S[kk] ≤ (t.drop (k + 1)).idxOf S[d] → ∀ y ∈ S.take (kk + 1), (t.drop (k + 1)).idxOf y ≤ (t.drop (k + 1)).idxOf S[d]) := fun hh => late_next hdk hks hla.out hh
                  have L2 : Hid ((t.drop (k + 1)).idxOf S[d] ≤ (t.drop (k + 1)).idxOf S[kk] → ∀ y ∈ S.take (kk + 1), (t.drop (k + 1)).idxOf y ≤ (t.drop (k + 1)).idxOf S[kk]) := fun hh => late_turn hdk hks hla.out hh
                  obtain ⟨yk, hyk⟩ : ∃ z, z = S[kk] := ⟨_, rfl⟩
                  obtain ⟨yd, hyd⟩ : ∃ z, z = S[d] := ⟨_, rfl⟩
                  rw [← hyk] at e0
                  rw [← hyd] at e1
                  obtain ⟨na, hna⟩ : ∃ z, k + 1 + (t.drop (k + 1)).idxOf yk = z := ⟨_, rfl⟩
                  obtain ⟨nb, hnb⟩ : ∃ z, k + 1 + (t.drop (k + 1)).idxOf yd = z := ⟨_, rfl⟩
                  have HK : Hid (yk = S[kk]) := hyk
                  have HD : Hid (yd = S[d]) := hyd
                  have hkki : (kk : Int) < (S.length : Int) := by omega
                  have hddi : (d : Int) < (S.length : Int) := by omega
                  clear hla hyk hyd O3
                  by_cases hgt : nb < na
                  · have LX : Hid _ := L2.out (by rw [← HK.out, ← HD.out]; omega)
                    have q1 : (nb : Int) < (na : Int) := by omega
                    go_wp2_with fail
                    refine (HAG.out yk _ B3).mono ?_
                    rintro e w' ⟨rfl, rfl⟩
                    rw [hna]
                    go_wp2_with fail
                    refine (HAG.out yd _ B3).mono ?_
                    rintro e w' ⟨rfl, rfl⟩
                    rw [hnb]
                    go_wp2_with fail
                    go_quiet (fail)
                    have hb4 : Hid (Below wi.heap.size wi (wz.drewN nq)) := (show Hid _ from ⟨hb3.out.os, hb3.out.tape, hb3.out.output, hb3.out.size, hb3.out.block⟩)
                    generalize wz.drewN nq = w9 at hb4 ⊢
                    go_wp2_with fail
                    go_roundw
                    case rel => exact ⟨kk, kk + 1, by go_num, by go_num, by omega, by omega, ⟨by omega, LX⟩, hb4⟩
                    case measure => simp [intOf]; omega
                  · by_cases heq : na = nb
                    · by_cases hyy : yk < yd
                      · have LX : Hid _ := L2.out (by rw [← HK.out, ← HD.out]; omega)
                        have q1 : ¬ (nb : Int) < (na : Int) := by omega
                        have q2 : (na == nb) = true := by rw [beq_iff_eq]; exact heq
                        have q3 : decide (yk < yd) = true := decide_eq_true hyy
                        go_wp2_with fail
                        refine (HAG.out yk _ B3).mono ?_
                        rintro e w' ⟨rfl, rfl⟩
                        rw [hna]
                        go_wp2_with fail
                        refine (HAG.out yd _ B3).mono ?_
                        rintro e w' ⟨rfl, rfl⟩
                        rw [hnb]
                        go_wp2_with fail
                        go_quiet (fail)
                        have hb4 : Hid (Below wi.heap.size wi (wz.drewN nq)) := (show Hid _ from ⟨hb3.out.os, hb3.out.tape, hb3.out.output, hb3.out.size, hb3.out.block⟩)
                        generalize wz.drewN nq = w9 at hb4 ⊢
                        go_wp2_with fail
                        go_roundw
                        case rel => exact ⟨kk, kk + 1, by go_num, by go_num, by omega, by omega, ⟨by omega, LX⟩, hb4⟩
                        case measure => simp [intOf]; omega
                      · have LX : Hid _ := L1.out (by rw [← HK.out, ← HD.out]; omega)
                        have q1 : ¬ (nb : Int) < (na : Int) := by omega
                        have q2 : (na == nb) = true := by rw [beq_iff_eq]; exact heq
                        have q3 : decide (yk < yd) = false := decide_eq_false hyy
                        go_wp2_with fail
                        refine (HAG.out yk _ B3).mono ?_
                        rintro e w' ⟨rfl, rfl⟩
                        rw [hna]
                        go_wp2_with fail
                        refine (HAG.out yd _ B3).mono ?_
                        rintro e w' ⟨rfl, rfl⟩
                        rw [hnb]
                        go_wp2_with fail
                        go_quiet (fail)
                        have hb4 : Hid (Below wi.heap.size wi (wz.drewN nq)) := (show Hid _ from ⟨hb3.out.os, hb3.out.tape, hb3.out.output, hb3.out.size, hb3.out.block⟩)
                        generalize wz.drewN nq = w9 at hb4 ⊢
                        go_wp2_with fail
                        go_roundw
                        case rel => exact ⟨d, kk + 1, by go_num, by go_num, by omega, by omega, ⟨by omega, LX⟩, hb4⟩
                        case measure => simp [intOf]; omega
                    · have LX : Hid _ := L1.out (by rw [← HK.out, ← HD.out]; omega)
                      have q1 : ¬ (nb : Int) < (na : Int) := by omega
                      have q2 : ((na : Int) == (nb : Int)) = false := by rw [beq_eq_false_iff_ne]; omega
                      have q3 : ¬ (na : Int) = (nb : Int) := by omega
                      go_wp2_with fail
                      refine (HAG.out yk _ B3).mono ?_
                      rintro e w' ⟨rfl, rfl⟩
                      rw [hna]
                      go_wp2_with fail
                      refine (HAG.out yd _ B3).mono ?_
                      rintro e w' ⟨rfl, rfl⟩
                      rw [hnb]
                      go_wp2_with fail
                      go_quiet (fail)
                      have hb4 : Hid (Below wi.heap.size wi (wz.drewN nq)) := (show Hid _ from ⟨hb3.out.os, hb3.out.tape, hb3.out.output, hb3.out.size, hb3.out.block⟩)
                      generalize wz.drewN nq = w9 at hb4 ⊢
                      go_wp2_with fail
                      go_roundw
                      case rel => exact ⟨d, kk + 1, by go_num, by go_num, by omega, by omega, ⟨by omega, LX⟩, hb4⟩
                      case measure => simp [intOf]; omega
                · obtain rfl : kk = S.length := by omega
                  rw [List.take_of_length_le (Nat.le_refl _)] at hla
                  have HO2 : Hid _ := KD.out HIN.out HFU.out d hd hla.out
                  have hnd2 : Hid _ := nodup_drop hnd.out HIN.out hd
                  have B3H : Hid (Below w.heap.size w wz) := B3
                  have O3H : Hid (OwnsN wz w.heap.size (.slice (some ⟨sg, 0, Option.none⟩) S.length sc) S) := O3
                  obtain ⟨e, he⟩ : ∃ e, d + 1 = e := ⟨_, rfl⟩
                  have hwr : IntKind.i64.wrap ((d : Int) + 1) = (e : Int) := by rw [IntKind.wrap_i64]; omega
                  rw [he] at HO2 hnd2
                  obtain ⟨A, hA, hAn⟩ := cutN O3 rfl (k := e) (by omega)
                  have hAH : Hid _ := hAn
                  have hSc : S.length ≤ sc := by obtain ⟨_, _, e, h4, _⟩ := O3.form; injection e with _ _ e3; omega
                  have hm : (S.drop e).length = S.length - e := List.length_drop
                  have he1 : e ≤ S.length := by omega
                  have he2 : (e : Int) ≤ (S.length : Int) := by omega
                  have HE0 : Hid (d + 1 = e) := he
                  clear he
                  have ht : (S.take d).length = d := by rw [List.length_take]; omega
                  have hsg := O3.under sg rfl
                  have hsg2 := O3.from sg rfl
                  have hwz2 := B3.size
                  have hd0 : d ≤ sc := by omega
                  have hddi : (d : Int) < (S.length : Int) := by omega
                  clear hAn hla B3 O3
                  go_wp2_with fail
                  go_region_law (first | (refine step_rowE (E := numE) rfl (.tmp 90) (.tmp 93) 24 2 (.int .i64 0) 8 Try.underlying24 Try.infoN2 rfl rfl wz.heap.size _ [] (by simp [Act.eval]) (OwnsE.born wz) ⟨sg, 0, Option.none⟩ sc (S.take d) (by simp [Act.eval, ht]) (takeN O3H.out rfl (by omega) (Below.heap_alloc wz _ sg hsg)) (by rw [ht]; simp only [List.length_nil]; unfold maxLen; omega) (by rw [ht]; simp only [List.length_nil]; omega) (by simp) ?_; intro v7 w7 ho7 hg7 hn7) | (refine step_rowE (E := numE) rfl (.tmp 94) (.tmp 98) 24 2 (.int .i64 0) 8 Try.underlying24 Try.infoN2 rfl rfl wz.heap.size v7 ([] ++ S.take d) (by simp [Act.eval]) ho7 A (sc - e) (S.drop e) (by simp [Act.eval, hm]) (hAH.out _ ((hg7.block sg (by simp; omega) (fun e => by simp [Value.ownBlock] at e; omega)).trans (Below.heap_alloc wz _ sg hsg))) (by rw [List.nil_append, ht, hm]; unfold maxLen; omega) (by rw [List.nil_append, ht, hm]; omega) (by have := hg7.size; simp at this; omega) ?_; intro v8 w8 ho8 hg8 hn8))
                  have b7 : Below w.heap.size w w7 := by
                    refine belowE (w1 := (wz.alloc (.cells #[] 2)).drew) ?_ hg7 (by simp; omega) (fun q hq => by simp [Value.ownBlock] at hq; omega)
                    exact ⟨B3H.out.os, B3H.out.tape, B3H.out.output, Nat.le_trans B3H.out.size (by simp), fun q hq => (Below.heap_alloc wz _ q (by omega)).trans (B3H.out.block q hq)⟩
                  have b8 : Hid (Below w.heap.size w w8) := belowE b7 hg8 b7.size (fun q hq => Nat.le_trans hwz2 (ho7.from q hq))
                  rw [List.nil_append] at ho8
                  have hT8 : (S.take d ++ S.drop e).length = S.length - 1 := by rw [List.length_append, ht, hm]; have := HE0.out; omega
                  have H8 : Hid (OwnsN w8 w.heap.size v8 (S.take d ++ S.drop e)) := ho8.low hwz2
                  generalize S.take d ++ S.drop e = T at hT8 H8 HO2 hnd2
                  obtain ⟨a8, c8, rfl, hl8, hm8, hf8⟩ := H8.out.form
                  have hT10 : T.length ≤ 9 := by omega
                  clear hf8 ho8 hg8 hn8 ho7 hg7 hn7 b7 hAH hA O3H B3H ht hm
                  have hc1 : Hid _ := HX.out _ b8.out
                  have hrT : T.length + 1 ≤ r := by have := HFU.out; omega
                  have c8x := hc1.out
                  clear hT8
                  go_wp2_with (at_builtin; refine wpList_pushN _ rfl (.tmp 100) (.tmp 105) rfl w.heap.size _ T x rfl H8.out rfl (by omega) b8.out.size ?_; intro v4 w4 ho4 hg4; obtain ⟨a4, c4, hv4, _, _⟩ := ho4.form; subst hv4)
                  go_roundw
                  case rel => exact ⟨k + 1, m + 1, a4, c4, T ++ [x], by omega, by go_num, by go_num, by simp, by omega, HO2, hnd2, by simp; omega, (show Hid _ from ho4), (show Hid _ from belowE b8.out hg4 b8.out.size (OwnsE.from H8.out))⟩
                  case measure => simp [intOf]; omega
            · have hne : ((S.length : Int) == (r : Int)) = false := by rw [beq_eq_false_iff_ne]; omega
              have HO2 : Hid _ := KR.out hin (by omega)
              have hnd2 : Hid (S ++ [x]).Nodup := nodup_push hnd.out hin
              clear KR KD hin
              go_wp2_with (at_builtin; refine wpList_pushN _ rfl (.tmp 100) (.tmp 105) rfl w.heap.size _ _ x rfl HOW.out rfl (by omega) HB9.out.size ?_; intro v4 w4 ho4 hg4; obtain ⟨a4, c4, hv4, _, _⟩ := ho4.form; subst hv4)
              go_roundw
              case rel => exact ⟨k + 1, m + 1, a4, c4, S ++ [x], by omega, by go_num, by go_num, by simp, by omega, HO2, hnd2, by simp; omega, (show Hid _ from ho4), (show Hid _ from belowE HB9.out hg4 HB9.out.size (OwnsE.from HOW.out))⟩
              case measure => simp [intOf]; omega
    · obtain rfl : k = t.length := by omega
      have HE : Hid ((m : Int) = (O : Int)) := by
        have := hO.out
        rw [List.drop_of_length_le (Nat.le_refl _)] at this
        show _ = _
        rw [← this]
        rfl
      go_wp2
      go_ret
      exact ⟨congrArg (fun z => Ending.returned (.int .i64 z)) HE.out, hb.out⟩
end Go.Proofs.Ytnnmbgenepfacaa
